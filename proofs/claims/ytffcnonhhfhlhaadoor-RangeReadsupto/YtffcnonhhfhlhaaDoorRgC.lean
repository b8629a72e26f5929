import Derived.Test.YtffcnonhhfhlhaaDoorRgA
import Derived.Test.YtffcnonhhfhlhaaDoorSr
namespace Go.Proofs.YtffcnonhhfhlhaaDoor.Rg
set_option linter.unusedVariables false

/-- a table: all keys, no two neighbours of one host -/
structure Tab (L : List Sg) : Prop where
  cov : Cov 0 L 18446744073709551616
  alt : Alt L
  hs : ∀ s ∈ L, 0 ≤ s.h ∧ s.h < 16
def lowP (L : List Sg) (lo : Int) : List Sg := if 0 < lo then tk 0 (lo - 1) L else []
def highP (L : List Sg) (hi : Int) : List Sg := if hi < 18446744073709551615 then tk (hi + 1) 18446744073709551615 (L.drop (plc L (hi + 1))) else []
def asg (L : List Sg) (lo hi o : Int) : List Sg := lays (lay (lays [] (lowP L lo)) ⟨lo, hi, o⟩) (highP L hi)
/-- boundaries now -/
def nowB (L : List Sg) (lo hi : Int) : Int := (plc L (if hi < 18446744073709551615 then hi + 1 else hi) : Int) - (plc L (if 0 < lo then lo - 1 else lo) : Int)
/-- boundaries behind -/
def aftB (L : List Sg) (lo hi o : Int) : Int := (if 0 < lo ∧ ow L (lo - 1) ≠ o then 1 else 0) + (if hi < 18446744073709551615 ∧ ow L (hi + 1) ≠ o then 1 else 0)
def costB (L : List Sg) (lo hi o : Int) : Int := aftB L lo hi o - nowB L lo hi

theorem Tab.ne {L : List Sg} (h : Tab L) : 0 < L.length := by
  cases L with
  | nil => have e : (0 : Int) = 18446744073709551616 := h.cov; omega
  | cons s r => simp
theorem Tab.ow16 {L : List Sg} (h : Tab L) {k : Int} (h0 : 0 ≤ k) (h1 : k < 18446744073709551616) : 0 ≤ ow L k ∧ ow L k < 16 := by
  obtain ⟨s, e1, _, _, e2, _⟩ := plc_facts h.cov h0 h1
  have := h.hs s (List.mem_of_getElem? e1)
  omega
theorem Tab.plc_lt {L : List Sg} (h : Tab L) {k : Int} (h0 : 0 ≤ k) (h1 : k < 18446744073709551616) : plc L k < L.length := by
  obtain ⟨s, _, _, _, _, e⟩ := plc_facts h.cov h0 h1
  exact e
theorem nowB_range {L : List Sg} (h : Tab L) {lo hi : Int} (h0 : 0 ≤ lo) (h1 : lo ≤ hi) (h2 : hi < 18446744073709551616) : 0 ≤ nowB L lo hi ∧ nowB L lo hi + 1 ≤ L.length := by
  unfold nowB
  have m : plc L (if 0 < lo then lo - 1 else lo) ≤ plc L (if hi < 18446744073709551615 then hi + 1 else hi) := plc_mono h.cov (by split <;> split <;> omega)
  have l := h.plc_lt (k := if hi < 18446744073709551615 then hi + 1 else hi) (by split <;> omega) (by split <;> omega)
  omega
theorem aftB_range (L : List Sg) (lo hi o : Int) : 0 ≤ aftB L lo hi o ∧ aftB L lo hi o ≤ 2 := by
  unfold aftB; split <;> split <;> omega

theorem lays_nil_id {R : List Sg} (h : Alt R) : (lays [] R).length = R.length := by
  have := lays_len (A := []) h
  rw [if_neg] at this
  · simpa using this
  · rintro ⟨h1, h2⟩
    cases R with
    | nil => exact h2 rfl
    | cons s R => cases h1
theorem lays_last : ∀ {R A : List Sg}, R ≠ [] → lastH (lays A R) = lastH R
  | [], A, h => absurd rfl h
  | [s], A, h => by rw [lays_cons, lays_nil, lay_last]; rfl
  | s :: t :: R, A, h => by
    rw [lays_cons, lays_last (R := t :: R) (by simp)]
    rfl

theorem low_facts {L : List Sg} (h : Tab L) {lo : Int} (h0 : 0 ≤ lo) (h2 : lo < 18446744073709551616) :
    Cov 0 (lowP L lo) lo ∧ (∀ k, 0 ≤ k → k < lo → ow (lowP L lo) k = ow L k) ∧ Alt (lowP L lo) ∧ (0 < lo → (lowP L lo).length = plc L (lo - 1) + 1 ∧ lastH (lowP L lo) = some (ow L (lo - 1))) ∧ (∀ s ∈ lowP L lo, 0 ≤ s.h ∧ s.h < 16) := by
  unfold lowP
  by_cases e : 0 < lo
  · rw [if_pos e]
    obtain ⟨i1, i2, i3, i4⟩ := tk_low (z := 0) (m := lo) h.cov (Int.le_refl _) (by omega) (by omega)
    refine ⟨i1, i2, i3 h.alt, i4, fun s hs => ?_⟩
    obtain ⟨y, hy, e2⟩ := tk_mem hs
    rw [← e2]; exact h.hs y hy
  · rw [if_neg e]
    exact ⟨show (0 : Int) = lo by omega, fun k h1 h2 => by omega, trivial, fun h => absurd h e, by simp⟩
theorem high_facts {L : List Sg} (h : Tab L) {hi : Int} (h0 : 0 ≤ hi) (h2 : hi < 18446744073709551616) :
    Cov (hi + 1) (highP L hi) 18446744073709551616 ∧ (∀ k, hi < k → k < 18446744073709551616 → ow (highP L hi) k = ow L k) ∧ Alt (highP L hi) ∧ (hi < 18446744073709551615 → (highP L hi).length + plc L (hi + 1) = L.length ∧ headH (highP L hi) = some (ow L (hi + 1))) ∧ (∀ s ∈ highP L hi, 0 ≤ s.h ∧ s.h < 16) ∧ (¬ hi < 18446744073709551615 → highP L hi = []) := by
  unfold highP
  by_cases e : hi < 18446744073709551615
  · rw [if_pos e]
    obtain ⟨T, j0, j1, j2, j3, j4, j5⟩ := tk_high (q := hi + 1) h.cov (by omega) (by omega)
    rw [show (18446744073709551616 : Int) - 1 = 18446744073709551615 by omega] at j0
    rw [j0]
    refine ⟨j1, fun k h1 _ => j2 k (by omega), j3 h.alt, fun _ => ⟨j4, j5⟩, fun s hs => ?_, fun h => absurd e h⟩
    rw [← j0] at hs
    obtain ⟨y, hy, e2⟩ := tk_mem hs
    rw [← e2]; exact h.hs y (List.mem_of_mem_drop hy)
  · rw [if_neg e]
    exact ⟨show hi + 1 = 18446744073709551616 by omega, fun k h1 h2 => by omega, trivial, fun h => absurd h e, by simp, fun _ => rfl⟩

theorem asg_facts {L : List Sg} (h : Tab L) {lo hi o : Int} (h0 : 0 ≤ lo) (h1 : lo ≤ hi) (h2 : hi < 18446744073709551616) (o0 : 0 ≤ o) (o1 : o < 16) :
    Tab (asg L lo hi o) ∧ (∀ k, 0 ≤ k → k < 18446744073709551616 → ow (asg L lo hi o) k = if lo ≤ k ∧ k ≤ hi then o else ow L k) ∧ ((asg L lo hi o).length : Int) = L.length + costB L lo hi o := by
  obtain ⟨a1, a2, a3, a4, a5⟩ := low_facts h h0 (by omega : lo < 18446744073709551616)
  obtain ⟨b1, b2, b3, b4, b5, b6⟩ := high_facts h (by omega : 0 ≤ hi) h2
  obtain ⟨c1, c2⟩ := lays_cov (A := []) (a := 0) (m := 0) rfl a1
  obtain ⟨d1, d2⟩ := lay_cov (s := ⟨lo, hi, o⟩) c1 rfl h1 rfl
  obtain ⟨e1, e2⟩ := lays_cov d1 b1
  have c3 : Alt (lays [] (lowP L lo)) := lays_alt trivial
  have c4 := lays_nil_id a3
  refine ⟨⟨e1, lays_alt (lay_alt _ _ c3), fun s hs => ?_⟩, fun k k0 k1 => ?_, ?_⟩
  · obtain ⟨y, hy, e⟩ := lays_mem hs
    rw [← e]
    rcases List.mem_append.1 hy with hy | hy
    · rcases lay_mem hy with h3 | ⟨z, hz, e3⟩
      · rw [h3]; exact ⟨o0, o1⟩
      · obtain ⟨x, hx, e4⟩ := lays_mem hz
        rw [← e3, ← e4]
        exact a5 x (by simpa using hx)
    · exact b5 y hy
  · show ow (lays _ _) k = _
    rw [e2 k k0 k1]
    by_cases f : k < hi + 1
    · rw [if_pos f, d2 k k0 f]
      by_cases g : k < lo
      · rw [if_pos g, c2 k k0 g, if_neg (by omega), if_neg (by omega)]
        exact a2 k k0 g
      · rw [if_neg g, if_pos (by omega)]
    · rw [if_neg f, if_neg (by omega)]
      exact b2 k (by omega) k1
  · have l1 := lay_len (lays [] (lowP L lo)) ⟨lo, hi, o⟩
    have l2 := lays_len (A := lay (lays [] (lowP L lo)) ⟨lo, hi, o⟩) b3
    rw [lay_last] at l2
    have l3 : ((lay (lays [] (lowP L lo)) ⟨lo, hi, o⟩).length : Int) = (plc L (if 0 < lo then lo - 1 else lo) : Int) + 1 + (if 0 < lo ∧ ow L (lo - 1) ≠ o then 1 else 0) := by
      by_cases e : 0 < lo
      · obtain ⟨f1, f2⟩ := a4 e
        have g : lowP L lo ≠ [] := by intro g; rw [g] at f1; simp at f1
        rw [lays_last g, f2, c4, f1] at l1
        rw [if_pos e]
        simp only [Option.some.injEq] at l1
        by_cases k : ow L (lo - 1) = o
        · rw [if_pos k] at l1; rw [if_neg (fun x => x.2 k)]; omega
        · rw [if_neg k] at l1; rw [if_pos ⟨e, k⟩]; omega
      · have g : lowP L lo = [] := by unfold lowP; rw [if_neg e]
        rw [g] at l1
        rw [g, if_neg e, if_neg (fun x => e x.1), show plc L lo = 0 from by rw [show lo = 0 by omega]; exact plc_first h.cov]
        rfl
    have l4 : ((asg L lo hi o).length : Int) = ((lay (lays [] (lowP L lo)) ⟨lo, hi, o⟩).length : Int) + (L.length : Int) - (plc L (if hi < 18446744073709551615 then hi + 1 else hi) : Int) - 1 + (if hi < 18446744073709551615 ∧ ow L (hi + 1) ≠ o then 1 else 0) := by
      unfold asg
      by_cases e : hi < 18446744073709551615
      · obtain ⟨f1, f2⟩ := b4 e
        have g : highP L hi ≠ [] := by intro g; rw [g] at f2; cases f2
        rw [f2] at l2
        simp only [Option.some.injEq] at l2
        rw [if_pos e]
        by_cases k : ow L (hi + 1) = o
        · rw [if_pos ⟨k, g⟩] at l2; rw [if_neg (fun x => x.2 k)]; omega
        · rw [if_neg (fun x => k x.1)] at l2; rw [if_pos ⟨e, k⟩]; omega
      · have g := b6 e
        have p := plc_last h.cov (by omega)
        rw [show (18446744073709551616 : Int) - 1 = 18446744073709551615 by omega] at p
        rw [if_neg e, if_neg (fun x => e x.1), show hi = 18446744073709551615 by omega]
        rw [show hi = 18446744073709551615 by omega] at g
        rw [g, lays_nil]
        omega
    unfold costB aftB nowB
    omega

/-- giving a host what it has costs nothing -/
theorem again_cost {L : List Sg} (h : Tab L) {lo hi o : Int} (h0 : 0 ≤ lo) (h1 : lo ≤ hi) (h2 : hi < 18446744073709551616) (o0 : 0 ≤ o) (o1 : o < 16) : costB (asg L lo hi o) lo hi o = 0 := by
  obtain ⟨t1, t2, t3⟩ := asg_facts h h0 h1 h2 o0 o1
  obtain ⟨u1, u2, u3⟩ := asg_facts t1 h0 h1 h2 o0 o1
  have : asg (asg L lo hi o) lo hi o = asg L lo hi o := by
    refine cov_unique u1.cov t1.cov u1.alt t1.alt fun k k0 k1 => ?_
    rw [u2 k k0 k1, t2 k k0 k1]
    split <;> rfl
  rw [this] at u3
  omega
theorem cost_range {L : List Sg} (h : Tab L) {lo hi : Int} (o : Int) (h0 : 0 ≤ lo) (h1 : lo ≤ hi) (h2 : hi < 18446744073709551616) : costB L lo hi o ≤ 2 ∧ 1 - (L.length : Int) ≤ costB L lo hi o := by
  have := nowB_range h h0 h1 h2
  have := aftB_range L lo hi o
  unfold costB
  omega
end Go.Proofs.YtffcnonhhfhlhaaDoor.Rg
namespace Go.Proofs.YtffcnonhhfhlhaaDoor.Rg
open Go.RowKit Go.Shelf
set_option linter.unusedVariables false

def cellsG (s : Sg) : List Value := [.int .u64 s.lo, .int .u64 s.hi, .int .u8 s.h]
def cells (L : List Sg) : List Value := L.flatMap cellsG
def enc (s : Sg) : Value := .agg #[.int .u64 s.lo, .int .u64 s.hi, .int .u8 s.h]
theorem cells_length : ∀ L : List Sg, (cells L).length = L.length * 3
  | [] => rfl
  | s :: L => by
    have := cells_length L
    simp only [cells, List.flatMap_cons, List.length_append] at this ⊢
    simp [cellsG, this]; omega
theorem cells_append (A B : List Sg) : cells (A ++ B) = cells A ++ cells B := by simp [cells]
theorem cells_at : ∀ (l : List Sg) (k : Nat) (x : Sg), l[k]? = some x → ∀ j, j < 3 → (cells l)[k * 3 + j]? = (cellsG x)[j]?
  | [], k, x, h, j, _ => by simp at h
  | a :: l, 0, x, h, j, hj => by
    simp at h; subst h
    simp only [cells, List.flatMap_cons, Nat.zero_mul, Nat.zero_add]
    rw [List.getElem?_append_left (by simp [cellsG]; omega)]
  | a :: l, k + 1, x, h, j, hj => by
    have ih := cells_at l k x (by simpa using h) j hj
    simp only [cells, List.flatMap_cons]
    rw [List.getElem?_append_right (by simp [cellsG]; omega)]
    have : (k + 1) * 3 + j - (cellsG a).length = k * 3 + j := by simp [cellsG]; omega
    rw [this]; exact ih

/-- a list of segments that can be read at a slice -/
def Rs (w : World) (u : Value) (L : List Sg) : Prop := ∃ r off cap, u = .slice (some ⟨r, off, none⟩) L.length cap ∧ ∀ i s, L[i]? = some s → w.cell? ⟨r, off + i * 3, none⟩ = some (.int .u64 s.lo) ∧ w.cell? ⟨r, off + i * 3 + 1, none⟩ = some (.int .u64 s.hi) ∧ w.cell? ⟨r, off + i * 3 + 2, none⟩ = some (.int .u8 s.h)

theorem row_at {w : World} {B : Nat} {v : Value} {L : List Sg} (h : w.ownsRow B 26 3 v L.length (cells L)) {i : Nat} {g : Sg} (hi : L[i]? = some g) : ∃ r cap, v = .slice (some ⟨r, 0, none⟩) L.length cap ∧ w.cell? ⟨r, i * 3, none⟩ = some (.int .u64 g.lo) ∧ w.cell? ⟨r, i * 3 + 1, none⟩ = some (.int .u64 g.hi) ∧ w.cell? ⟨r, i * 3 + 2, none⟩ = some (.int .u8 g.h) := by
  have hlt : i < L.length := (List.getElem?_eq_some_iff.1 hi).1
  rcases h.2 with ⟨_, h0⟩ | ⟨r, cap, cur, e, hB, hg, h1, h2, h3, h4⟩
  · omega
  · have key : ∀ j, j < 3 → cur[i * 3 + j]? = (cellsG g)[j]? := by
      intro j hj
      have e1 := cells_at L i g hi j hj
      rw [← h4, List.getElem?_take_of_lt (by omega)] at e1
      simpa using e1
    refine ⟨r, cap, e, ?_, ?_, ?_⟩
    · have := key 0 (by omega)
      simpa [World.cell?, hg, cellsG] using this
    · have := key 1 (by omega)
      simpa [World.cell?, hg, cellsG] using this
    · have := key 2 (by omega)
      simpa [World.cell?, hg, cellsG] using this

/-- a table in memory -/
structure Tb (B : Nat) (w : World) (b : Nat) (lim : Int) (v : Value) (L : List Sg) : Prop where
  blk : w.heap[b]? = some (.cells #[.int .i64 lim, v] 93 (0, 0))
  low : B ≤ b
  own : w.ownsRow B 26 3 v L.length (cells L)
  tab : Tab L
  len : (L.length : Int) ≤ lim
  lim1 : lim ≤ 8192
section
variable {B b : Nat} {w w' : World} {lim : Int} {v : Value} {L : List Sg}
theorem Tb.nu (h : Tb B w b lim v L) (k : Kp Nu w w') : Tb B w' b lim v L :=
  ⟨(k.block _ (blk_lt h.blk) (fun h => h)).trans h.blk, h.low, own_keep h.own (fun g hg => k.block g (own_lt h.own hg) (fun h => h)), h.tab, h.len, h.lim1⟩
theorem Tb.c0 (h : Tb B w b lim v L) : w.cell? ⟨b, 0, none⟩ = some (.int .i64 lim) := by simp [World.cell?, h.blk]
theorem Tb.c1 (h : Tb B w b lim v L) : w.cell? ⟨b, 1, none⟩ = some v := by simp [World.cell?, h.blk]
theorem Tb.row (h : Tb B w b lim v L) : ∃ r cap, v = .slice (some ⟨r, 0, none⟩) L.length cap ∧ ∃ cur, w.heap[r]? = some (.cells cur 26 (0, 0)) := by
  have := h.tab.ne
  rcases h.own.2 with ⟨_, h0⟩ | ⟨r, cap, cur, e, hB, hg, h1, h2, h3, h4⟩
  · omega
  · exact ⟨r, cap, e, cur, hg⟩
theorem Tb.rs (h : Tb B w b lim v L) : Rs w v L := by
  obtain ⟨r, cap, e, _⟩ := h.row
  refine ⟨r, 0, cap, e, fun i s hi => ?_⟩
  obtain ⟨r', cap', e', x0, x1, x2⟩ := row_at h.own hi
  rw [e] at e'; cases e'
  simpa using And.intro x0 (And.intro x1 x2)

set_option maxHeartbeats 400000 in
theorem made_any (h : Tb B w b lim v L) : Calls Tryd.prog 50 #[.pointer (some ⟨b, 0, none⟩)] w fun e w' => e = .returned (.bool true) ∧ w' = w := by
  obtain ⟨r, cap, e, _⟩ := h.row
  have c1 := h.c1
  have hn := h.tab.ne
  subst e
  have hn' : (L.length : Int) > 0 := by omega
  clear h
  go_enter Tryd.func50, Tryd.ntmps50
  go_wp2
  go_ret
  exact ⟨rfl, rfl⟩
set_option maxHeartbeats 400000 in
theorem len_any (h : Tb B w b lim v L) : Calls Tryd.prog 22 #[.pointer (some ⟨b, 0, none⟩)] w fun e w' => e = .returned (.int .i64 L.length) ∧ w' = w := by
  have MA := made_any h
  obtain ⟨r, cap, e, _⟩ := h.row
  have c1 := h.c1
  subst e
  clear h
  go_enter Tryd.func22, Tryd.ntmps22
  go_wp2_with (go_at_call 50; refine MA.mono ?_; rintro e w' ⟨rfl, rfl⟩)
  go_ret
  exact ⟨rfl, rfl⟩
set_option maxHeartbeats 400000 in
theorem isHost_any (a : Int) (w : World) : Calls Tryd.prog 51 #[.int .u8 a] w fun e w' => e = .returned (.bool (decide (a < 16))) ∧ w' = w := by
  go_enter Tryd.func51, Tryd.ntmps51
  go_wp2
  go_ret
  exact ⟨rfl, rfl⟩
set_option maxHeartbeats 400000 in
theorem num_any (a : Int) (w : World) : Calls Tryd.prog 29 #[.int .i64 a] w fun e w' => e = .returned (.int .i64 a) ∧ w' = w := by
  go_enter Tryd.func29, Tryd.ntmps29
  go_wp2
  go_ret
  exact ⟨rfl, rfl⟩

theorem count_plc : ∀ {L : List Sg} {a b k : Int}, Cov a L b → (List.range L.length).countP (fun i => !(((L[i]?).map fun s => decide (k ≤ s.hi)).getD true)) = plc L k
  | [], a, b, k, h => rfl
  | s :: r, a, b, k, h => by
    have ih := count_plc (k := k) h.2.2
    rw [List.length_cons, List.range_succ_eq_map, List.countP_cons, List.countP_map]
    simp only [plc]
    by_cases e : k ≤ s.hi
    · rw [if_pos e]
      have : ∀ i, i ∈ List.range r.length → ¬ ((((fun i => !(((s :: r)[i]?).map fun s => decide (k ≤ s.hi)).getD true) ∘ Nat.succ) i) = true) := fun i hi => by
        have hi := List.mem_range.1 hi
        have := cov_mem h.2.2 (r[i]) (List.getElem_mem hi)
        simp [List.getElem?_eq_getElem hi]; omega
      rw [List.countP_eq_zero.2 this]
      simp [e]
    · rw [if_neg e]
      have : ((fun i => !(((s :: r)[i]?).map fun s => decide (k ≤ s.hi)).getD true) ∘ Nat.succ) = (fun i => !((r[i]?).map fun s => decide (k ≤ s.hi)).getD true) := by
        funext i; simp
      rw [this, ih]
      simp; omega

set_option maxHeartbeats 1000000 in
theorem place1_any (h : Tb B w b lim v L) (kb tb : Nat) (key : Int) (hk : w.heap[kb]? = some (.cells #[.int .u64 key] 23 (0, 0))) (ht : w.heap[tb]? = some (.cells #[.pointer (some ⟨b, 0, none⟩)] 27 (0, 0))) (i : Nat) (hi : i < L.length) :
    Calls Tryd.prog 88 #[.int .i64 (i : Int), .pointer (some ⟨kb, 0, none⟩), .pointer (some ⟨tb, 0, none⟩)] w fun e w' => e = .returned (.bool (((L[i]?).map fun s => decide (key ≤ s.hi)).getD true)) ∧ w' = w.drew := by
  have mixed : Tryd.prog.follows .mixedOrders = true := by kernel_rfl
  obtain ⟨s, hs⟩ : ∃ s, L[i]? = some s := ⟨_, List.getElem?_eq_getElem hi⟩
  obtain ⟨r, cap, e, x0, x1, x2⟩ := row_at h.own hs
  rw [hs]
  simp only [Option.map_some, Option.getD_some]
  have c1 := h.c1
  have k1 := cell1 hk
  have k2 := cell1 ht
  subst e
  have hiI : (i : Int) < (L.length : Int) := by omega
  have hi0 : (0 : Int) ≤ (i : Int) := by omega
  generalize L.length = N at *
  clear h hs hk ht
  go_enter Tryd.func88, Tryd.ntmps88
  go_wp2_with fail
  go_region
  go_wp2
  go_ret
  exact ⟨rfl, rfl⟩
end
end Go.Proofs.YtffcnonhhfhlhaaDoor.Rg
