import Derived.Test.YtchealdgncgjoaaNdKI
import Derived.Test.YtchealdgncgjoaaNdLI
import Derived.Test.YtchealdgncgjoaaNdMM
import Derived.Test.YtchealdgncgjoaaMpAI
import Derived.Laws.EntriesVeiled
namespace Go.Proofs.Ytchealdgncgjoaa.StM
open Go.RowKit Go.Proofs.Ytchealdgncgjoaa.St Go.Proofs.Ytchealdgncgjoaa.StI
set_option linter.unusedVariables false

/-- the root's own block -/
abbrev mcells (bw : Nat) (a : Option Addr) : Obj := .cells #[.func (.func 66) #[] #[.pointer (some ⟨bw, 0, none⟩)], .pointer a] 130 (0, 0)
/-- a map in memory -/
structure Mp (bw : Nat) (wh : Int) (w : World) (mb : Nat) (t : T (Int × Int)) : Prop where
  ex : ∃ a, w.heap[mb]? = some (.cells #[.func (.func 66) #[] #[.pointer (some ⟨bw, 0, none⟩)], .pointer a] 130 (0, 0)) ∧ Tr w t a
  bal : t.bal
  srt : Srt (cmpW wh) t.xs
  bx : w.heap[bw]? = some (.cells #[.int .i64 wh] 3 (0, 0)) ∧ 0 ≤ wh ∧ wh ≤ 3
theorem Mp.nu {bw : Nat} {wh : Int} {w w' : World} {mb : Nat} {t : T (Int × Int)} (h : Mp bw wh w mb t) (k : Kp Nu w w') : Mp bw wh w' mb t := by
  obtain ⟨a, h1, h2⟩ := h.ex
  exact ⟨⟨a, (k.block _ (blk_lt h1) (fun h => h)).trans h1, h2.nu k⟩, h.bal, h.srt, (k.block _ (blk_lt h.bx.1) (fun h => h)).trans h.bx.1, h.bx.2⟩
theorem Mp.lt {bw : Nat} {wh : Int} {w : World} {mb : Nat} {t : T (Int × Int)} (h : Mp bw wh w mb t) : mb < w.heap.size := by
  obtain ⟨a, h1, h2⟩ := h.ex
  exact blk_lt h1

/-- is the key there; what does it have -/
def hasT (wh : Int) (k : Int) (t : T (Int × Int)) : Bool := (T.fd (sd wh k) t).2
def getT (wh : Int) (k : Int) (t : T (Int × Int)) : Option (Int × Int) := if (T.fd (sd wh k) t).2 then t.xs[(T.fd (sd wh k) t).1]? else none
def putT (wh : Int) (k : Int) (v : Int) (t : T (Int × Int)) : T (Int × Int) := if (T.fd (sd wh k) t).2 then t.rep (T.fd (sd wh k) t).1 (fun p => (p.1, v)) else t.ins (T.fd (sd wh k) t).1 (k, v)
def delT (wh : Int) (k : Int) (t : T (Int × Int)) : T (Int × Int) := if (T.fd (sd wh k) t).2 then t.rem (T.fd (sd wh k) t).1 else t
theorem getT_some {wh : Int} {k : Int} {t : T (Int × Int)} (h : (T.fd (sd wh k) t).2 = true) : ∃ p, t.xs[(T.fd (sd wh k) t).1]? = some p ∧ getT wh k t = some p := by
  have := (T.fd_le (sd wh k) t).2 h
  rw [← T.xs_length] at this
  exact ⟨_, List.getElem?_eq_getElem this, by unfold getT; rw [if_pos h]; exact List.getElem?_eq_getElem this⟩
theorem put_bal {wh : Int} {k : Int} {v : Int} {t : T (Int × Int)} (h : t.bal) : (putT wh k v t).bal := by
  unfold putT
  split
  · exact (T.rep_ht _ _ _).2.2 h
  · exact (T.ins_bal _ _ _ h).1
theorem put_xs {wh : Int} {k : Int} {v : Int} {t : T (Int × Int)} : (putT wh k v t).xs = if (T.fd (sd wh k) t).2 then t.xs.modify (T.fd (sd wh k) t).1 (fun p => (p.1, v)) else t.xs.take (T.fd (sd wh k) t).1 ++ (k, v) :: t.xs.drop (T.fd (sd wh k) t).1 := by
  unfold putT
  split
  · exact T.rep_xs _ _ _
  · exact T.ins_xs _ _ _ (T.fd_le (sd wh k) t).1
theorem put_srt {wh : Int} {k : Int} {v : Int} {t : T (Int × Int)} (h : Srt (cmpW wh) t.xs) : Srt (cmpW wh) (putT wh k v t).xs := by
  have hf := T.fd_eq (sd wh k) t (h.c (cmpW_ord wh) k)
  rw [put_xs]
  split
  · exact h.rep _ _
  · rename_i hn
    have h1 : (T.fd (sd wh k) t).1 = t.xs.countP (fun a => decide (0 < sd wh k a)) := by rw [hf]
    have h2 : t.xs.any (fun a => decide (sd wh k a = 0)) = false := by
      have : (T.fd (sd wh k) t).2 = t.xs.any (fun a => decide (sd wh k a = 0)) := by rw [hf]
      rw [← this]; simpa using hn
    exact h.ins (cmpW_ord wh) k v _ h1 h2
theorem put_sz {wh : Int} {k : Int} {v : Int} {t : T (Int × Int)} : (putT wh k v t).sz = if (T.fd (sd wh k) t).2 then t.sz else t.sz + 1 := by
  unfold putT
  split
  · exact (T.rep_ht _ _ _).2.1
  · exact ins_sz _ _ _ (T.fd_le (sd wh k) t).1
theorem del_bal {wh : Int} {k : Int} {t : T (Int × Int)} (h : t.bal) : (delT wh k t).bal := by
  unfold delT
  split
  · exact (T.rem_bal _ _ h).1
  · exact h
theorem del_xs {wh : Int} {k : Int} {t : T (Int × Int)} : (delT wh k t).xs = if (T.fd (sd wh k) t).2 then t.xs.eraseIdx (T.fd (sd wh k) t).1 else t.xs := by
  unfold delT
  split
  · exact T.rem_xs _ _
  · rfl
theorem del_srt {wh : Int} {k : Int} {t : T (Int × Int)} (h : Srt (cmpW wh) t.xs) : Srt (cmpW wh) (delT wh k t).xs := by
  rw [del_xs]
  split
  · exact h.erase _
  · exact h
theorem del_sz {wh : Int} {k : Int} {t : T (Int × Int)} : (delT wh k t).sz = if (T.fd (sd wh k) t).2 then t.sz - 1 else t.sz := by
  rw [← T.xs_length, del_xs]
  have := (T.fd_le (sd wh k) t).2
  have e := T.xs_length t
  split
  · rename_i h
    rw [List.length_eraseIdx, if_pos (by have := this h; omega)]; omega
  · exact e

section
variable {w : World} {mb : Nat} {t : T (Int × Int)} {bw : Nat} {wh : Int}
set_option maxHeartbeats 400000 in
theorem tree_any {a : Option Addr} (h1 : w.heap[mb]? = some (.cells #[.func (.func 66) #[] #[.pointer (some ⟨bw, 0, none⟩)], .pointer a] 130 (0, 0))) : Calls Try.prog 83 #[.pointer (some ⟨mb, 0, none⟩)] w fun e w' => e = .returned (.pointer a) ∧ w' = w := by
  have c1 : w.cell? ⟨mb, 1, none⟩ = some (.pointer a) := by simp [World.cell?, h1]
  clear h1
  go_enter Try.func83, Try.ntmps83
  go_wp2
  go_ret
  exact ⟨rfl, rfl⟩
set_option maxRecDepth 100000 in
set_option maxHeartbeats 400000 in
theorem made_any {a : Option Addr} (h1 : w.heap[mb]? = some (.cells #[.func (.func 66) #[] #[.pointer (some ⟨bw, 0, none⟩)], .pointer a] 130 (0, 0))) : Calls Try.prog 77 #[.pointer (some ⟨mb, 0, none⟩)] w fun e w' => e = .returned (.bool true) ∧ w' = w := by
  have c0 : w.cell? ⟨mb, 0, none⟩ = some (.func (.func 66) #[] #[.pointer (some ⟨bw, 0, none⟩)]) := by simp [World.cell?, h1]
  have nf : (binOp .neq 109 (.func (.func 66) #[] #[.pointer (some ⟨bw, 0, none⟩)]) .nilFunc).run Try.prog w = .ok (.bool true) w := by rfl
  clear h1
  go_enter Try.func77, Try.ntmps77
  go_wp2
  go_ret
  exact ⟨rfl, rfl⟩
set_option maxHeartbeats 400000 in
theorem len_any (h : Mp bw wh w mb t) : Calls Try.prog 21 #[.pointer (some ⟨mb, 0, none⟩)] w fun e w' => e = .returned (.int .i64 (t.sz : Int)) ∧ w' = w := by
  obtain ⟨a, h1, h2⟩ := h.ex
  have TA := tree_any h1
  have CO := count_any h2
  clear h h1 h2
  go_enter Try.func21, Try.ntmps21
  go_wp2_with (first
    | (go_at_call 83; refine TA.mono ?_; rintro e w' ⟨rfl, hw⟩; obtain rfl := hw.symm)
    | (go_at_call 85; refine CO.mono ?_; rintro e w' ⟨rfl, hw⟩; obtain rfl := hw.symm))
  go_ret
  exact ⟨rfl, rfl⟩
--IF Height
set_option maxHeartbeats 400000 in
theorem height_any (h : Mp bw wh w mb t) : Calls Try.prog 22 #[.pointer (some ⟨mb, 0, none⟩)] w fun e w' => e = .returned (.int .i64 (t.ht : Int)) ∧ w' = w := by
  obtain ⟨a, h1, h2⟩ := h.ex
  have TA := tree_any h1
  have CO := high_any h2
  clear h h1 h2
  go_enter Try.func22, Try.ntmps22
  go_wp2_with (first
    | (go_at_call 83; refine TA.mono ?_; rintro e w' ⟨rfl, hw⟩; obtain rfl := hw.symm)
    | (go_at_call 88; refine CO.mono ?_; rintro e w' ⟨rfl, hw⟩; obtain rfl := hw.symm))
  go_ret
  exact ⟨rfl, rfl⟩
--END
set_option maxHeartbeats 400000 in
theorem At_any (h : Mp bw wh w mb t) (i : Int) (hi : i ≤ 9223372036854775807) (hs : t.sz < 2 ^ 62) : Calls Try.prog 23 #[.pointer (some ⟨mb, 0, none⟩), .int .i64 i] w fun e w' => e = .returned (.tuple #[ok (atT t i), ov (atT t i), .bool (atT t i).isSome]) ∧ Kp Nu w w' := by
  obtain ⟨a, h1, h2⟩ := h.ex
  have TA := tree_any h1
  have AA := at_any h2 i hi hs
  have PA : ∀ a', An w (atT t i) a' → Calls Try.prog 89 #[.pointer a'] w fun e w' => e = .returned (.tuple #[ok (atT t i), ov (atT t i), .bool (atT t i).isSome]) ∧ Kp Nu w w' := fun a' h => pair_any h
  clear h h1 h2 hi hs
  go_enter Try.func23, Try.ntmps23
  go_wp2_with (first
    | (go_at_call 83; refine TA.mono ?_; rintro e w' ⟨rfl, hw⟩; obtain rfl := hw.symm)
    | (go_at_call 81; refine AA.mono ?_; rintro e w' ⟨a', rfl, ha', hw⟩; obtain rfl := hw.symm)
    | (go_at_call 89; refine (PA _ ha').mono ?_; rintro e w' ⟨rfl, hk⟩))
  go_ret3
  exact ⟨rfl, hk⟩
end
end Go.Proofs.Ytchealdgncgjoaa.StM
