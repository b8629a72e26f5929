import Derived.Test.YtffcnonhhfhlhaaDoorRfP
import Derived.Deep.RegionHeldLaw
import Derived.Test.YtffcnonhhfhlhaaDoorRgB
namespace Go.Proofs.YtffcnonhhfhlhaaDoor.Rg
open Go.RowKit Go.Shelf Go.Sort
open Go.Proofs.YtffcnonhhfhlhaaDoor.It
set_option linter.unusedVariables false

theorem more_any (a b : Int) (w : World) : Calls Tryd.prog 42 #[.int .u64 a, .int .u64 b] w fun e w' => e = .returned (.int .u64 (max a b)) ∧ w' = w := by
  by_cases h : b < a
  · rw [show max a b = a by omega]
    go_enter Tryd.func42, Tryd.ntmps42
    go_wp2
    go_ret
    exact ⟨rfl, rfl⟩
  · rw [show max a b = b by omega]
    go_enter Tryd.func42, Tryd.ntmps42
    go_wp2
    go_ret
    exact ⟨rfl, rfl⟩
theorem less_any (a b : Int) (w : World) : Calls Tryd.prog 43 #[.int .u64 a, .int .u64 b] w fun e w' => e = .returned (.int .u64 (min a b)) ∧ w' = w := by
  by_cases h : a < b
  · rw [show min a b = a by omega]
    go_enter Tryd.func43, Tryd.ntmps43
    go_wp2
    go_ret
    exact ⟨rfl, rfl⟩
  · rw [show min a b = b by omega]
    go_enter Tryd.func43, Tryd.ntmps43
    go_wp2
    go_ret
    exact ⟨rfl, rfl⟩
theorem step_append_run {P : Program} {ops : Array Oper} {o : Oper} {a : Act} {w : World} {K : Act → World → Prop} {Q : Exit → Act → World → Prop} {E : Prop}
    (hg : o.guard = none) (s x : Operand) (t u : TypeId) (hop : o.op = Op.call { callee := Callee.builtin Builtin.append, args := #[s, x], argTypes := #[t, u] })
    (v y : Value) (hs : a.eval s = v) (hx : a.eval x = y) (v' : Value) (w' : World) (hrun : (Builtin.append_ #[t, u] o.type #[v, y]).run P w = .ok v' w')
    (hK : K (a.put o.dst v') w') : if Region.wanted o (yielded ops a.tmps) = true then Oper.wp P o a w K Q else E := by
  have hw : Region.wanted o (yielded ops a.tmps) = true := by simp [Region.wanted, hg]
  rw [if_pos hw]
  unfold Oper.wp execOp
  simp only [hop, resolve, invoke, builtin, Sem.run_bind, Sem.run_pure, Result.andThen_ok, List.map_toArray, List.map_cons, List.map_nil, hs, hx, hrun]
  exact hK
/-- a segment goes behind a list, the box of another one stays -/
theorem app_run {w1 W : World} {v : Value} {n : Nat} {xs : List Value} {bx : Nat} {c : Array Value} (x y z : Int) (hk : Kp Nu w1 W) (ho : W.ownsRow w1.heap.size 26 3 v n xs) (hn : n ≤ 100000) (hb : W.heap[bx]? = some (.cells c 26 (0, 0))) (hne : v.ownBlock ≠ some bx) :
    ∃ ad cp w', (Builtin.append_ #[22, 22] 22 #[v, .slice (some ⟨W.drew.heap.size, 0, none⟩) 1 1]).run Tryd.prog (W.drew.alloc (.cells #[.int .u64 x, .int .u64 y, .int .u8 z] 26)) = .ok (.slice ad (n + 1) cp) w' ∧
      w'.ownsRow w1.heap.size 26 3 (.slice ad (n + 1) cp) (n + 1) (xs ++ [.int .u64 x, .int .u64 y, .int .u8 z]) ∧ Kp Nu w1 w' ∧ w'.heap[bx]? = some (.cells c 26 (0, 0)) ∧ (Value.slice ad (n + 1) cp).ownBlock ≠ some bx := by
  obtain ⟨i0, hi, hz0, hz1, hz2⟩ := info_parts info40
  have hgb : ∀ g, v.ownBlock = some g → g < W.heap.size := fun g hg => own_lt ho hg
  have ho' : (W.drew.alloc (.cells #[.int .u64 x, .int .u64 y, .int .u8 z] 26)).ownsRow w1.heap.size 26 3 v n xs := World.ownsRow.alloc (show W.drew.ownsRow w1.heap.size 26 3 v n xs from ho) _
  have hbl : bx < W.heap.size := blk_lt hb
  obtain ⟨v', w', hr, h2, h3, h4, h5⟩ := run_append_own_at (P := Tryd.prog) (W.drew.alloc (.cells #[.int .u64 x, .int .u64 y, .int .u8 z] 26)) w1.heap.size 22 22 26 i0 (.agg #[.int .u64 0, .int .u64 0, .int .u8 0]) 3 24 Tryd.underlying22 hi hz0 hz1 hz2 rfl (by decide) v n xs ho' ⟨W.drew.heap.size, 0, none⟩ 1 1 [.int .u64 x, .int .u64 y, .int .u8 z] rfl (cell_three_new _ _ _ _ _) (by simp [Value.oneCell']) (by unfold maxLen; omega) (by omega) (by have := hk.size; simp; omega)
  obtain ⟨ad, cp, e⟩ := own_slice h2
  subst e
  refine ⟨ad, cp, w', hr, h2, ?_, ?_, ?_⟩
  · exact (hk.drew.andAlloc _).trans (Kp.of_grown h3) (fun i h1 e => by have := (ho.lt i e.symm).1; omega)
  · exact (h3.block bx (by simp; omega) (fun e => hne e.symm)).trans ((Below.heap_alloc _ _ _ hbl).trans hb)
  · rcases h5 with e | e
    · rw [e]; exact hne
    · rw [e]
      intro e2
      have e3 := Option.some.inj e2
      simp at e3; omega
def SegC (W : World) (bx : Nat) (s : Sg) : Prop := W.cell? ⟨bx, 0, none⟩ = some (.int .u64 s.lo) ∧ W.cell? ⟨bx, 1, none⟩ = some (.int .u64 s.hi) ∧ W.cell? ⟨bx, 2, none⟩ = some (.int .u8 s.h)
theorem segC_of {W : World} {bx : Nat} {s : Sg} (h : W.heap[bx]? = some (.cells #[.int .u64 s.lo, .int .u64 s.hi, .int .u8 s.h] 26 (0, 0))) : SegC W bx s := cell3 h
theorem pcs_sgb {lo hi o : Int} (h0 : 0 ≤ lo) (h1 : lo ≤ hi) (h2 : hi < 18446744073709551616) (o0 : 0 ≤ o) (o1 : o < 256) {s : Sg} (hs : SgB s) : ∀ x ∈ pcs lo hi o s, SgB x := fun x hx => by
  obtain ⟨a0, a1, a2, a3, a4, a5⟩ := hs
  unfold pcs pcA pcB pcC at hx
  simp only [List.mem_append] at hx
  rcases hx with (hx | hx) | hx
  · split at hx
    · simp only [List.mem_singleton] at hx; subst hx
      exact ⟨by simp only; omega, by simp only; omega, by simp only; omega, by simp only; omega, a4, a5⟩
    · cases hx
  · split at hx
    · simp only [List.mem_singleton] at hx; subst hx
      exact ⟨by simp only; omega, by simp only; omega, by simp only; omega, by simp only; omega, o0, o1⟩
    · cases hx
  · split at hx
    · simp only [List.mem_singleton] at hx; subst hx
      exact ⟨by simp only; omega, by simp only; omega, by simp only; omega, by simp only; omega, a4, a5⟩
    · cases hx
theorem cutD_sgb {lo hi o : Int} (h0 : 0 ≤ lo) (h1 : lo ≤ hi) (h2 : hi < 18446744073709551616) (o0 : 0 ≤ o) (o1 : o < 256) {L : List Sg} (hs : ∀ s ∈ L, SgB s) : ∀ x ∈ cutD lo hi o L, SgB x := fun x hx => by
  simp only [cutD, List.mem_flatMap] at hx
  obtain ⟨s, h, hx⟩ := hx
  exact pcs_sgb h0 h1 h2 o0 o1 (hs s h) x hx
end Go.Proofs.YtffcnonhhfhlhaaDoor.Rg
namespace Go.Proofs.YtffcnonhhfhlhaaDoor.Rg
set_option linter.unusedVariables false

/-- what the document's Within takes of a segment -/
def pcW (lo hi : Int) (s : Sg) : List Sg := if lo ≤ s.hi ∧ s.lo ≤ hi then [cutS lo hi s] else []
def wiD (lo hi : Int) (L : List Sg) : List Sg := L.flatMap (pcW lo hi)
theorem wiD_cons (lo hi : Int) (s : Sg) (r : List Sg) : wiD lo hi (s :: r) = pcW lo hi s ++ wiD lo hi r := by simp [wiD]
theorem wiD_snoc (lo hi : Int) (A : List Sg) (s : Sg) : wiD lo hi (A ++ [s]) = wiD lo hi A ++ pcW lo hi s := by simp [wiD]
theorem wiD_none {lo hi : Int} : ∀ {L : List Sg} {a b : Int}, Cov a L b → hi < a → wiD lo hi L = []
  | [], _, _, _, _ => rfl
  | s :: r, a, b, h, ha => by
    obtain ⟨h1, h2, h3⟩ := h
    rw [wiD_cons, wiD_none h3 (by omega)]
    unfold pcW
    rw [if_neg (by omega)]
    rfl
theorem wiD_low {lo hi : Int} : ∀ {L : List Sg} {a b : Int}, Cov a L b → lo ≤ a → wiD lo hi L = tk lo hi L
  | [], _, _, _, _ => rfl
  | s :: r, a, b, h, ha => by
    obtain ⟨h1, h2, h3⟩ := h
    rw [wiD_cons]
    by_cases hs : hi < s.lo
    · rw [wiD_none h3 (by omega)]
      unfold pcW tk
      rw [if_neg (by omega), if_pos hs]
      rfl
    · rw [wiD_low h3 (by omega)]
      unfold pcW
      rw [if_pos (by omega)]
      show _ = tk lo hi (s :: r)
      rw [tk, if_neg hs]
      rfl
/-- the document's Within is the program's -/
theorem wiD_tk {lo hi : Int} (hlh : lo ≤ hi) : ∀ {L : List Sg} {a b : Int}, Cov a L b → wiD lo hi L = tk lo hi (L.drop (plc L lo))
  | [], _, _, _ => rfl
  | s :: r, a, b, h => by
    obtain ⟨h1, h2, h3⟩ := h
    rw [wiD_cons, plc]
    by_cases hs : lo ≤ s.hi
    · rw [if_pos hs, List.drop_zero, wiD_low h3 (by omega)]
      unfold pcW
      by_cases hs2 : s.lo ≤ hi
      · rw [if_pos ⟨hs, hs2⟩, tk, if_neg (by omega)]
        rfl
      · rw [if_neg (fun h => hs2 h.2), tk, if_pos (by omega), tk_stop h3 (by omega)]
        rfl
    · rw [if_neg hs, List.drop_succ_cons, ← wiD_tk hlh h3]
      unfold pcW
      rw [if_neg (fun h => hs h.1)]
      rfl
end Go.Proofs.YtffcnonhhfhlhaaDoor.Rg
