import Derived.Test.YtbifmcadllilhaaGreatRgA
import Derived.Test.YtbifmcadllilhaaGreatRows
import Derived.WalkKit
import Derived.ProofKit
import Derived.Below
import Derived.Laws.AppendOwn
import Derived.Maps.AppendAt
import Derived.Maps.OwnSet
import Derived.Maps.RangeWalk
import Derived.OwnWalk
import Derived.DeepKeys4
import Derived.Shelf.SlSorted.Search
import Derived.Test.YtbifmcadllilhaaGreatProg
import Derived.Deep.RegionHeld
import Derived.RangeFuncNested
import Derived.RangeFuncBound
import Derived.RangeFuncCalls
import Derived.RangeFuncLeaves
import Derived.Shelf.Abstract
import Derived.Shelf.RegionOpen
import Derived.OwnWalkIn
import Derived.TacticsInMore
import Derived.LoopNIn
import Derived.LoopIn
import Derived.LoopTactic
namespace Go.Proofs.YtbifmcadllilhaaGreat.Rg
set_option linter.unusedVariables false

/-- a table: all keys, no two neighbours of one host -/
structure Tab (L : List Sg) : Prop where
  cov : Cov 0 L 18446744073709551616
  alt : Alt L
  hs : ∀ s ∈ L, 0 ≤ s.h ∧ s.h < 16
def lowP (L : List Sg) (lo : Int) : List Sg := if 0 < lo then tk 0 (lo - 1) L else []
def highP (L : List Sg) (hi : Int) : List Sg := if hi < 18446744073709551615 then tk (hi + 1) 18446744073709551615 (L.drop (plc L (hi + 1))) else []
def asg (L : List Sg) (lo hi o : Int) : List Sg := lays (lay (lays [] (lowP L lo)) ⟨lo, hi, o⟩) (highP L hi)
/-- boundaries now -/
def nowB (L : List Sg) (lo hi : Int) : Int := (plc L (if hi < 18446744073709551615 then hi + 1 else hi) : Int) - (plc L (if 0 < lo then lo - 1 else lo) : Int)
/-- boundaries behind -/
def aftB (L : List Sg) (lo hi o : Int) : Int := (if 0 < lo ∧ ow L (lo - 1) ≠ o then 1 else 0) + (if hi < 18446744073709551615 ∧ ow L (hi + 1) ≠ o then 1 else 0)
def costB (L : List Sg) (lo hi o : Int) : Int := aftB L lo hi o - nowB L lo hi

theorem Tab.ne {L : List Sg} (h : Tab L) : 0 < L.length := by
  cases L with
  | nil => have e : (0 : Int) = 18446744073709551616 := h.cov; omega
  | cons s r => simp
theorem Tab.ow16 {L : List Sg} (h : Tab L) {k : Int} (h0 : 0 ≤ k) (h1 : k < 18446744073709551616) : 0 ≤ ow L k ∧ ow L k < 16 := by
  obtain ⟨s, e1, _, _, e2, _⟩ := plc_facts h.cov h0 h1
  have := h.hs s (List.mem_of_getElem? e1)
  omega
theorem Tab.plc_lt {L : List Sg} (h : Tab L) {k : Int} (h0 : 0 ≤ k) (h1 : k < 18446744073709551616) : plc L k < L.length := by
  obtain ⟨s, _, _, _, _, e⟩ := plc_facts h.cov h0 h1
  exact e
theorem nowB_range {L : List Sg} (h : Tab L) {lo hi : Int} (h0 : 0 ≤ lo) (h1 : lo ≤ hi) (h2 : hi < 18446744073709551616) : 0 ≤ nowB L lo hi ∧ nowB L lo hi + 1 ≤ L.length := by
  unfold nowB
  have m : plc L (if 0 < lo then lo - 1 else lo) ≤ plc L (if hi < 18446744073709551615 then hi + 1 else hi) := plc_mono h.cov (by split <;> split <;> omega)
  have l := h.plc_lt (k := if hi < 18446744073709551615 then hi + 1 else hi) (by split <;> omega) (by split <;> omega)
  omega
theorem aftB_range (L : List Sg) (lo hi o : Int) : 0 ≤ aftB L lo hi o ∧ aftB L lo hi o ≤ 2 := by
  unfold aftB; split <;> split <;> omega

theorem lays_nil_id {R : List Sg} (h : Alt R) : (lays [] R).length = R.length := by
  have := lays_len (A := []) h
  rw [if_neg] at this
  · simpa using this
  · rintro ⟨h1, h2⟩
    cases R with
    | nil => exact h2 rfl
    | cons s R => cases h1
theorem lays_last : ∀ {R A : List Sg}, R ≠ [] → lastH (lays A R) = lastH R
  | [], A, h => absurd rfl h
  | [s], A, h => by rw [lays_cons, lays_nil, lay_last]; rfl
  | s :: t :: R, A, h => by
    rw [lays_cons, lays_last (R := t :: R) (by simp)]
    rfl

theorem low_facts {L : List Sg} (h : Tab L) {lo : Int} (h0 : 0 ≤ lo) (h2 : lo < 18446744073709551616) :
    Cov 0 (lowP L lo) lo ∧ (∀ k, 0 ≤ k → k < lo → ow (lowP L lo) k = ow L k) ∧ Alt (lowP L lo) ∧ (0 < lo → (lowP L lo).length = plc L (lo - 1) + 1 ∧ lastH (lowP L lo) = some (ow L (lo - 1))) ∧ (∀ s ∈ lowP L lo, 0 ≤ s.h ∧ s.h < 16) := by
  unfold lowP
  by_cases e : 0 < lo
  · rw [if_pos e]
    obtain ⟨i1, i2, i3, i4⟩ := tk_low (z := 0) (m := lo) h.cov (Int.le_refl _) (by omega) (by omega)
    refine ⟨i1, i2, i3 h.alt, i4, fun s hs => ?_⟩
    obtain ⟨y, hy, e2⟩ := tk_mem hs
    rw [← e2]; exact h.hs y hy
  · rw [if_neg e]
    exact ⟨show (0 : Int) = lo by omega, fun k h1 h2 => by omega, trivial, fun h => absurd h e, by simp⟩
theorem high_facts {L : List Sg} (h : Tab L) {hi : Int} (h0 : 0 ≤ hi) (h2 : hi < 18446744073709551616) :
    Cov (hi + 1) (highP L hi) 18446744073709551616 ∧ (∀ k, hi < k → k < 18446744073709551616 → ow (highP L hi) k = ow L k) ∧ Alt (highP L hi) ∧ (hi < 18446744073709551615 → (highP L hi).length + plc L (hi + 1) = L.length ∧ headH (highP L hi) = some (ow L (hi + 1))) ∧ (∀ s ∈ highP L hi, 0 ≤ s.h ∧ s.h < 16) ∧ (¬ hi < 18446744073709551615 → highP L hi = []) := by
  unfold highP
  by_cases e : hi < 18446744073709551615
  · rw [if_pos e]
    obtain ⟨T, j0, j1, j2, j3, j4, j5⟩ := tk_high (q := hi + 1) h.cov (by omega) (by omega)
    rw [show (18446744073709551616 : Int) - 1 = 18446744073709551615 by omega] at j0
    rw [j0]
    refine ⟨j1, fun k h1 _ => j2 k (by omega), j3 h.alt, fun _ => ⟨j4, j5⟩, fun s hs => ?_, fun h => absurd e h⟩
    rw [← j0] at hs
    obtain ⟨y, hy, e2⟩ := tk_mem hs
    rw [← e2]; exact h.hs y (List.mem_of_mem_drop hy)
  · rw [if_neg e]
    exact ⟨show hi + 1 = 18446744073709551616 by omega, fun k h1 h2 => by omega, trivial, fun h => absurd h e, by simp, fun _ => rfl⟩

theorem asg_facts {L : List Sg} (h : Tab L) {lo hi o : Int} (h0 : 0 ≤ lo) (h1 : lo ≤ hi) (h2 : hi < 18446744073709551616) (o0 : 0 ≤ o) (o1 : o < 16) :
    Tab (asg L lo hi o) ∧ (∀ k, 0 ≤ k → k < 18446744073709551616 → ow (asg L lo hi o) k = if lo ≤ k ∧ k ≤ hi then o else ow L k) ∧ ((asg L lo hi o).length : Int) = L.length + costB L lo hi o := by
  obtain ⟨a1, a2, a3, a4, a5⟩ := low_facts h h0 (by omega : lo < 18446744073709551616)
  obtain ⟨b1, b2, b3, b4, b5, b6⟩ := high_facts h (by omega : 0 ≤ hi) h2
  obtain ⟨c1, c2⟩ := lays_cov (A := []) (a := 0) (m := 0) rfl a1
  obtain ⟨d1, d2⟩ := lay_cov (s := ⟨lo, hi, o⟩) c1 rfl h1 rfl
  obtain ⟨e1, e2⟩ := lays_cov d1 b1
  have c3 : Alt (lays [] (lowP L lo)) := lays_alt trivial
  have c4 := lays_nil_id a3
  refine ⟨⟨e1, lays_alt (lay_alt _ _ c3), fun s hs => ?_⟩, fun k k0 k1 => ?_, ?_⟩
  · obtain ⟨y, hy, e⟩ := lays_mem hs
    rw [← e]
    rcases List.mem_append.1 hy with hy | hy
    · rcases lay_mem hy with h3 | ⟨z, hz, e3⟩
      · rw [h3]; exact ⟨o0, o1⟩
      · obtain ⟨x, hx, e4⟩ := lays_mem hz
        rw [← e3, ← e4]
        exact a5 x (by simpa using hx)
    · exact b5 y hy
  · show ow (lays _ _) k = _
    rw [e2 k k0 k1]
    by_cases f : k < hi + 1
    · rw [if_pos f, d2 k k0 f]
      by_cases g : k < lo
      · rw [if_pos g, c2 k k0 g, if_neg (by omega), if_neg (by omega)]
        exact a2 k k0 g
      · rw [if_neg g, if_pos (by omega)]
    · rw [if_neg f, if_neg (by omega)]
      exact b2 k (by omega) k1
  · have l1 := lay_len (lays [] (lowP L lo)) ⟨lo, hi, o⟩
    have l2 := lays_len (A := lay (lays [] (lowP L lo)) ⟨lo, hi, o⟩) b3
    rw [lay_last] at l2
    have l3 : ((lay (lays [] (lowP L lo)) ⟨lo, hi, o⟩).length : Int) = (plc L (if 0 < lo then lo - 1 else lo) : Int) + 1 + (if 0 < lo ∧ ow L (lo - 1) ≠ o then 1 else 0) := by
      by_cases e : 0 < lo
      · obtain ⟨f1, f2⟩ := a4 e
        have g : lowP L lo ≠ [] := by intro g; rw [g] at f1; simp at f1
        rw [lays_last g, f2, c4, f1] at l1
        rw [if_pos e]
        simp only [Option.some.injEq] at l1
        by_cases k : ow L (lo - 1) = o
        · rw [if_pos k] at l1; rw [if_neg (fun x => x.2 k)]; omega
        · rw [if_neg k] at l1; rw [if_pos ⟨e, k⟩]; omega
      · have g : lowP L lo = [] := by unfold lowP; rw [if_neg e]
        rw [g] at l1
        rw [g, if_neg e, if_neg (fun x => e x.1), show plc L lo = 0 from by rw [show lo = 0 by omega]; exact plc_first h.cov]
        rfl
    have l4 : ((asg L lo hi o).length : Int) = ((lay (lays [] (lowP L lo)) ⟨lo, hi, o⟩).length : Int) + (L.length : Int) - (plc L (if hi < 18446744073709551615 then hi + 1 else hi) : Int) - 1 + (if hi < 18446744073709551615 ∧ ow L (hi + 1) ≠ o then 1 else 0) := by
      unfold asg
      by_cases e : hi < 18446744073709551615
      · obtain ⟨f1, f2⟩ := b4 e
        have g : highP L hi ≠ [] := by intro g; rw [g] at f2; cases f2
        rw [f2] at l2
        simp only [Option.some.injEq] at l2
        rw [if_pos e]
        by_cases k : ow L (hi + 1) = o
        · rw [if_pos ⟨k, g⟩] at l2; rw [if_neg (fun x => x.2 k)]; omega
        · rw [if_neg (fun x => k x.1)] at l2; rw [if_pos ⟨e, k⟩]; omega
      · have g := b6 e
        have p := plc_last h.cov (by omega)
        rw [show (18446744073709551616 : Int) - 1 = 18446744073709551615 by omega] at p
        rw [if_neg e, if_neg (fun x => e x.1), show hi = 18446744073709551615 by omega]
        rw [show hi = 18446744073709551615 by omega] at g
        rw [g, lays_nil]
        omega
    unfold costB aftB nowB
    omega

/-- giving a host what it has costs nothing -/
theorem again_cost {L : List Sg} (h : Tab L) {lo hi o : Int} (h0 : 0 ≤ lo) (h1 : lo ≤ hi) (h2 : hi < 18446744073709551616) (o0 : 0 ≤ o) (o1 : o < 16) : costB (asg L lo hi o) lo hi o = 0 := by
  obtain ⟨t1, t2, t3⟩ := asg_facts h h0 h1 h2 o0 o1
  obtain ⟨u1, u2, u3⟩ := asg_facts t1 h0 h1 h2 o0 o1
  have : asg (asg L lo hi o) lo hi o = asg L lo hi o := by
    refine cov_unique u1.cov t1.cov u1.alt t1.alt fun k k0 k1 => ?_
    rw [u2 k k0 k1, t2 k k0 k1]
    split <;> rfl
  rw [this] at u3
  omega
theorem cost_range {L : List Sg} (h : Tab L) {lo hi : Int} (o : Int) (h0 : 0 ≤ lo) (h1 : lo ≤ hi) (h2 : hi < 18446744073709551616) : costB L lo hi o ≤ 2 ∧ 1 - (L.length : Int) ≤ costB L lo hi o := by
  have := nowB_range h h0 h1 h2
  have := aftB_range L lo hi o
  unfold costB
  omega
end Go.Proofs.YtbifmcadllilhaaGreat.Rg
namespace Go.Proofs.YtbifmcadllilhaaGreat.Rg
open Go.RowKit
set_option linter.unusedVariables false

theorem hide {p : Prop} (h : p) : Hid p := h

/-- nothing has turned but blocks of S, and new blocks. -/
structure Kp (S : Nat → Prop) (w w' : World) : Prop where
  os : w'.os = w.os
  tape : w'.tape = w.tape
  output : w'.output = w.output
  size : w.heap.size ≤ w'.heap.size
  block : ∀ k, k < w.heap.size → ¬ S k → w'.heap[k]? = w.heap[k]?
def Nu : Nat → Prop := fun _ => False

theorem Kp.refl (S : Nat → Prop) (w : World) : Kp S w w := ⟨rfl, rfl, rfl, Nat.le_refl _, fun _ _ _ => rfl⟩
theorem Kp.trans {S T : Nat → Prop} {a b c : World} (h : Kp S a b) (k : Kp T b c) (hT : ∀ i, i < a.heap.size → T i → S i) : Kp S a c :=
  ⟨k.os.trans h.os, k.tape.trans h.tape, k.output.trans h.output, Nat.le_trans h.size k.size,
    fun i hi hS => (k.block i (Nat.lt_of_lt_of_le hi h.size) (fun ht => hS (hT i hi ht))).trans (h.block i hi hS)⟩
theorem Kp.andNu {S : Nat → Prop} {a b c : World} (h : Kp S a b) (k : Kp Nu b c) : Kp S a c := h.trans k (fun _ _ e => e.elim)
theorem Kp.of_grown {w w' : World} {row : Option Nat} (h : w.grownBy w' row) : Kp (fun k => some k = row) w w' :=
  ⟨h.os, h.tape, h.output, h.size, fun k hk hn => h.block k hk hn⟩
theorem Kp.mono {S T : Nat → Prop} {w w' : World} (h : Kp S w w') (hT : ∀ i, i < w.heap.size → S i → T i) : Kp T w w' :=
  ⟨h.os, h.tape, h.output, h.size, fun k hk hn => h.block k hk (fun hs => hn (hT k hk hs))⟩
theorem Kp.drew {S : Nat → Prop} {a w : World} (h : Kp S a w) : Kp S a w.drew := ⟨h.os, h.tape, h.output, h.size, h.block⟩
theorem Kp.alloc (w : World) (o : Obj) (S : Nat → Prop) : Kp S w (w.alloc o) := ⟨rfl, rfl, rfl, by simp, fun k hk _ => Below.heap_alloc w o k hk⟩
theorem Kp.andAlloc {S : Nat → Prop} {w w1 : World} (h : Kp S w w1) (o : Obj) : Kp S w (w1.alloc o) := h.trans (Kp.alloc w1 o Nu) (fun _ _ h => h.elim)
theorem Kp.setCell (w : World) (a : Addr) (u : Value) : Kp (fun k => k = a.block) w (w.setCell a u) :=
  ⟨rfl, rfl, rfl, by simp [World.setCell], fun k _ hn => Below.heap_setCell w a u k hn⟩
theorem Kp.andSet {S : Nat → Prop} {w w1 : World} (h : Kp S w w1) (a : Addr) (u : Value) (ha : w.heap.size ≤ a.block ∨ S a.block) : Kp S w (w1.setCell a u) :=
  h.trans (Kp.setCell w1 a u) (fun i hi e => by have e : i = a.block := e; subst e; rcases ha with h | h; · omega
                                                · exact h)
theorem Kp.below {S : Nat → Prop} {w w' : World} (h : Kp S w w') (B : Nat) (hB : B ≤ w.heap.size) (hS : ∀ k, S k → B ≤ k) : Below B w w' :=
  ⟨h.os, h.tape, h.output, h.size, fun k hk => h.block k (by omega) (fun hs => by have := hS k hs; omega)⟩
theorem Kp.toBelow {w w' : World} (h : Kp Nu w w') : Below w.heap.size w w' := ⟨h.os, h.tape, h.output, h.size, fun k hk => h.block k hk (fun h => h)⟩
theorem Kp.of_below {w w' : World} (h : Below w.heap.size w w') : Kp Nu w w' := ⟨h.os, h.tape, h.output, h.size, fun k hk _ => h.block k hk⟩

theorem free3 {w : World} {b : Nat} {c : Array Value} {t : TypeId} (h : w.heap[b]? = some (.cells c t (0, 0))) (o : Nat) : w.frozen? ⟨b, o, none⟩ = false := by
  simp [World.frozen?, h]
theorem set3 {w : World} {b : Nat} {c : Array Value} {t : TypeId} (h : w.heap[b]? = some (.cells c t (0, 0))) (o : Nat) (u : Value) :
    (w.setCell ⟨b, o, none⟩ u).heap[b]? = some (.cells (c.setIfInBounds o u) t (0, 0)) := by
  simp [World.setCell, Array.getElem?_modify, h]
theorem blk_lt {w : World} {b : Nat} {o : Obj} (h : w.heap[b]? = some o) : b < w.heap.size := by
  rcases Nat.lt_or_ge b w.heap.size with hlt | hge
  · exact hlt
  · rw [Array.getElem?_eq_none hge] at h; cases h

theorem add_block (a : Addr) (j : Nat) : (a.add j).block = a.block := by
  unfold Addr.add
  first | rfl | (split <;> rfl)
/-- a row of one's own stands while its block does -/
theorem own_keep {w w' : World} {B e size n : Nat} {v : Value} {xs : List Value} (h : w.ownsRow B e size v n xs) (hk : ∀ g, v.ownBlock = some g → w'.heap[g]? = w.heap[g]?) : w'.ownsRow B e size v n xs := by
  refine ⟨h.1, ?_⟩
  rcases h.2 with ⟨rfl, h0⟩ | ⟨g, cap, cur, rfl, hb', hg, h1, h2, h3, h4⟩
  · exact .inl ⟨rfl, h0⟩
  · exact .inr ⟨g, cap, cur, rfl, hb', (hk g rfl).trans hg, h1, h2, h3, h4⟩
theorem own_obj {w : World} {B e size n : Nat} {v : Value} {xs : List Value} (h : w.ownsRow B e size v n xs) {g : Nat} (hg : v.ownBlock = some g) : ∃ cur, w.heap[g]? = some (.cells cur e (0, 0)) := by
  rcases h.2 with ⟨rfl, h0⟩ | ⟨g', cap, cur, rfl, hb', hg', _⟩
  · cases hg
  · simp [Value.ownBlock] at hg; subst hg; exact ⟨cur, hg'⟩
theorem own_lt {w : World} {B e size n : Nat} {v : Value} {xs : List Value} (h : w.ownsRow B e size v n xs) {g : Nat} (hg : v.ownBlock = some g) : g < w.heap.size := by
  obtain ⟨cur, hc⟩ := own_obj h hg
  exact blk_lt hc
theorem own_slice {w : World} {B e size n : Nat} {v : Value} {xs : List Value} (h : w.ownsRow B e size v n xs) : ∃ ad cap, v = .slice ad n cap := by
  rcases h.2 with ⟨rfl, h0⟩ | ⟨g', cap, cur, rfl, hb', hg', _⟩
  · exact ⟨none, 0, by rw [h0]⟩
  · exact ⟨_, cap, rfl⟩

theorem new_at (w : World) (o : Obj) {W : World} (k : Kp Nu (w.alloc o) W) : W.heap[w.heap.size]? = some o := (k.block _ (by simp) (fun h => h)).trans (heap_alloc_new w o)

theorem cell3 {w : World} {b : Nat} {x y z : Value} {t : TypeId} (h : w.heap[b]? = some (.cells #[x, y, z] t (0, 0))) :
    w.cell? ⟨b, 0, none⟩ = some x ∧ w.cell? ⟨b, 1, none⟩ = some y ∧ w.cell? ⟨b, 2, none⟩ = some z := by
  refine ⟨?_, ?_, ?_⟩ <;> simp [World.cell?, h]
theorem cell1 {w : World} {b : Nat} {x : Value} {t : TypeId} (h : w.heap[b]? = some (.cells #[x] t (0, 0))) : w.cell? ⟨b, 0, none⟩ = some x := by simp [World.cell?, h]

theorem own_base {w : World} {base base' e size n : Nat} {v : Value} {l : List Value} (h : w.ownsRow base e size v n l) (hb : base' ≤ base) : w.ownsRow base' e size v n l := by
  obtain ⟨hl, ho⟩ := h
  refine ⟨hl, ?_⟩
  rcases ho with ho | ⟨g, cap, cur, e1, e2, e3⟩
  · exact .inl ho
  · exact .inr ⟨g, cap, cur, e1, Nat.le_trans hb e2, e3⟩
end Go.Proofs.YtbifmcadllilhaaGreat.Rg
/-
  DERIVED: THE SHELF's CONTRACTS AT THIS DUMP, IN PLAIN WORDS (tools/lay-plain.mjs out of 'YtffcnonhhfhlhaaSrL.lean', which tools/lay-shelf.mjs wrote): THE SAME DECLARATIONS UNDER THE SAME NAMES: 'import', 'namespace', 'open', 'def', 'theorem' AND NOTHING ELSE: no command of the shelf's: FOR A HAND-IN. Each laying: the table of numbers ('.._ren') and one theorem, a field a fact of the dump's own or the kernel's comparison; each contract: ONE APPLICATION.
-/
namespace Go.Proofs
open Go.Shelf
def Tryz.search_ren : Go.Shelf.Ren := ⟨fun | 16 => 45 | n => n, fun | 3 => 3 | 35 => 67 | 4 => 4 | 38 => 123 | n => n, fun | n => n⟩
theorem Tryz.search : Go.Proofs.SlLaysO.n16 Tryz.prog Tryz.search_ren := {
  mixed := by kernel_rfl
  f16 := Tryz.func45.trans (congrArg some (by kernel_rfl))
  t3 := Tryz.underlying3
  a3 := Tryz.isAgg3
  z3 := Tryz.sizeOf3
  v3 := Tryz.zeroValue3
  t4 := Tryz.underlying4
  a4 := Tryz.isAgg4
  z4 := Tryz.sizeOf4
  v4 := Tryz.zeroValue4
  t35 := Tryz.underlying67
  a35 := Tryz.isAgg67
  z35 := Tryz.sizeOf67
  v35 := Tryz.zeroValue67
  t38 := Tryz.underlying123
  a38 := Tryz.isAgg123
  z38 := Tryz.sizeOf123
  v38 := Tryz.zeroValue123 }
end Go.Proofs
namespace Go.Proofs.YtbifmcadllilhaaGreat.Rg
open Go.RowKit Go.Shelf
set_option linter.unusedVariables false

def cellsG (s : Sg) : List Value := [.int .u64 s.lo, .int .u64 s.hi, .int .u8 s.h]
def cells (L : List Sg) : List Value := L.flatMap cellsG
def enc (s : Sg) : Value := .agg #[.int .u64 s.lo, .int .u64 s.hi, .int .u8 s.h]
theorem cells_length : ∀ L : List Sg, (cells L).length = L.length * 3
  | [] => rfl
  | s :: L => by
    have := cells_length L
    simp only [cells, List.flatMap_cons, List.length_append] at this ⊢
    simp [cellsG, this]; omega
theorem cells_append (A B : List Sg) : cells (A ++ B) = cells A ++ cells B := by simp [cells]
theorem cells_at : ∀ (l : List Sg) (k : Nat) (x : Sg), l[k]? = some x → ∀ j, j < 3 → (cells l)[k * 3 + j]? = (cellsG x)[j]?
  | [], k, x, h, j, _ => by simp at h
  | a :: l, 0, x, h, j, hj => by
    simp at h; subst h
    simp only [cells, List.flatMap_cons, Nat.zero_mul, Nat.zero_add]
    rw [List.getElem?_append_left (by simp [cellsG]; omega)]
  | a :: l, k + 1, x, h, j, hj => by
    have ih := cells_at l k x (by simpa using h) j hj
    simp only [cells, List.flatMap_cons]
    rw [List.getElem?_append_right (by simp [cellsG]; omega)]
    have : (k + 1) * 3 + j - (cellsG a).length = k * 3 + j := by simp [cellsG]; omega
    rw [this]; exact ih

/-- a list of segments that can be read at a slice -/
def Rs (w : World) (u : Value) (L : List Sg) : Prop := ∃ r off cap, u = .slice (some ⟨r, off, none⟩) L.length cap ∧ ∀ i s, L[i]? = some s → w.cell? ⟨r, off + i * 3, none⟩ = some (.int .u64 s.lo) ∧ w.cell? ⟨r, off + i * 3 + 1, none⟩ = some (.int .u64 s.hi) ∧ w.cell? ⟨r, off + i * 3 + 2, none⟩ = some (.int .u8 s.h)

theorem row_at {w : World} {B : Nat} {v : Value} {L : List Sg} (h : w.ownsRow B 38 3 v L.length (cells L)) {i : Nat} {g : Sg} (hi : L[i]? = some g) : ∃ r cap, v = .slice (some ⟨r, 0, none⟩) L.length cap ∧ w.cell? ⟨r, i * 3, none⟩ = some (.int .u64 g.lo) ∧ w.cell? ⟨r, i * 3 + 1, none⟩ = some (.int .u64 g.hi) ∧ w.cell? ⟨r, i * 3 + 2, none⟩ = some (.int .u8 g.h) := by
  have hlt : i < L.length := (List.getElem?_eq_some_iff.1 hi).1
  rcases h.2 with ⟨_, h0⟩ | ⟨r, cap, cur, e, hB, hg, h1, h2, h3, h4⟩
  · omega
  · have key : ∀ j, j < 3 → cur[i * 3 + j]? = (cellsG g)[j]? := by
      intro j hj
      have e1 := cells_at L i g hi j hj
      rw [← h4, List.getElem?_take_of_lt (by omega)] at e1
      simpa using e1
    refine ⟨r, cap, e, ?_, ?_, ?_⟩
    · have := key 0 (by omega)
      simpa [World.cell?, hg, cellsG] using this
    · have := key 1 (by omega)
      simpa [World.cell?, hg, cellsG] using this
    · have := key 2 (by omega)
      simpa [World.cell?, hg, cellsG] using this

/-- a table in memory -/
structure Tb (B : Nat) (w : World) (b : Nat) (lim : Int) (v : Value) (L : List Sg) : Prop where
  blk : w.heap[b]? = some (.cells #[.int .i64 lim, v] 133 (0, 0))
  low : B ≤ b
  own : w.ownsRow B 38 3 v L.length (cells L)
  tab : Tab L
  len : (L.length : Int) ≤ lim
  lim1 : lim ≤ 8192
section
variable {B b : Nat} {w w' : World} {lim : Int} {v : Value} {L : List Sg}
theorem Tb.nu (h : Tb B w b lim v L) (k : Kp Nu w w') : Tb B w' b lim v L :=
  ⟨(k.block _ (blk_lt h.blk) (fun h => h)).trans h.blk, h.low, own_keep h.own (fun g hg => k.block g (own_lt h.own hg) (fun h => h)), h.tab, h.len, h.lim1⟩
theorem Tb.c0 (h : Tb B w b lim v L) : w.cell? ⟨b, 0, none⟩ = some (.int .i64 lim) := by simp [World.cell?, h.blk]
theorem Tb.c1 (h : Tb B w b lim v L) : w.cell? ⟨b, 1, none⟩ = some v := by simp [World.cell?, h.blk]
theorem Tb.row (h : Tb B w b lim v L) : ∃ r cap, v = .slice (some ⟨r, 0, none⟩) L.length cap ∧ ∃ cur, w.heap[r]? = some (.cells cur 38 (0, 0)) := by
  have := h.tab.ne
  rcases h.own.2 with ⟨_, h0⟩ | ⟨r, cap, cur, e, hB, hg, h1, h2, h3, h4⟩
  · omega
  · exact ⟨r, cap, e, cur, hg⟩
theorem Tb.rs (h : Tb B w b lim v L) : Rs w v L := by
  obtain ⟨r, cap, e, _⟩ := h.row
  refine ⟨r, 0, cap, e, fun i s hi => ?_⟩
  obtain ⟨r', cap', e', x0, x1, x2⟩ := row_at h.own hi
  rw [e] at e'; cases e'
  simpa using And.intro x0 (And.intro x1 x2)

set_option maxHeartbeats 400000 in
theorem made_any (h : Tb B w b lim v L) : Calls Tryz.prog 80 #[.pointer (some ⟨b, 0, none⟩)] w fun e w' => e = .returned (.bool true) ∧ w' = w := by
  obtain ⟨r, cap, e, _⟩ := h.row
  have c1 := h.c1
  have hn := h.tab.ne
  subst e
  have hn' : (L.length : Int) > 0 := by omega
  clear h
  go_enter Tryz.func80, Tryz.ntmps80
  go_wp2
  go_ret
  exact ⟨rfl, rfl⟩
set_option maxHeartbeats 400000 in
theorem len_any (h : Tb B w b lim v L) : Calls Tryz.prog 147 #[.pointer (some ⟨b, 0, none⟩)] w fun e w' => e = .returned (.int .i64 L.length) ∧ w' = w := by
  have MA := made_any h
  obtain ⟨r, cap, e, _⟩ := h.row
  have c1 := h.c1
  subst e
  clear h
  go_enter Tryz.func147, Tryz.ntmps147
  go_wp2_with (go_at_call 80; refine MA.mono ?_; rintro e w' ⟨rfl, rfl⟩)
  go_ret
  exact ⟨rfl, rfl⟩
set_option maxHeartbeats 400000 in
theorem isHost_any (a : Int) (w : World) : Calls Tryz.prog 89 #[.int .u8 a] w fun e w' => e = .returned (.bool (decide (a < 16))) ∧ w' = w := by
  go_enter Tryz.func89, Tryz.ntmps89
  go_wp2
  go_ret
  exact ⟨rfl, rfl⟩
theorem count_plc : ∀ {L : List Sg} {a b k : Int}, Cov a L b → (List.range L.length).countP (fun i => !(((L[i]?).map fun s => decide (k ≤ s.hi)).getD true)) = plc L k
  | [], a, b, k, h => rfl
  | s :: r, a, b, k, h => by
    have ih := count_plc (k := k) h.2.2
    rw [List.length_cons, List.range_succ_eq_map, List.countP_cons, List.countP_map]
    simp only [plc]
    by_cases e : k ≤ s.hi
    · rw [if_pos e]
      have : ∀ i, i ∈ List.range r.length → ¬ ((((fun i => !(((s :: r)[i]?).map fun s => decide (k ≤ s.hi)).getD true) ∘ Nat.succ) i) = true) := fun i hi => by
        have hi := List.mem_range.1 hi
        have := cov_mem h.2.2 (r[i]) (List.getElem_mem hi)
        simp [List.getElem?_eq_getElem hi]; omega
      rw [List.countP_eq_zero.2 this]
      simp [e]
    · rw [if_neg e]
      have : ((fun i => !(((s :: r)[i]?).map fun s => decide (k ≤ s.hi)).getD true) ∘ Nat.succ) = (fun i => !((r[i]?).map fun s => decide (k ≤ s.hi)).getD true) := by
        funext i; simp
      rw [this, ih]
      simp; omega

set_option maxHeartbeats 1000000 in
theorem place1_any (h : Tb B w b lim v L) (kb tb : Nat) (key : Int) (hk : w.heap[kb]? = some (.cells #[.int .u64 key] 24 (0, 0))) (ht : w.heap[tb]? = some (.cells #[.pointer (some ⟨b, 0, none⟩)] 80 (0, 0))) (i : Nat) (hi : i < L.length) :
    Calls Tryz.prog 95 #[.int .i64 (i : Int), .pointer (some ⟨kb, 0, none⟩), .pointer (some ⟨tb, 0, none⟩)] w fun e w' => e = .returned (.bool (((L[i]?).map fun s => decide (key ≤ s.hi)).getD true)) ∧ w' = w.drew := by
  have mixed : Tryz.prog.follows .mixedOrders = true := by kernel_rfl
  obtain ⟨s, hs⟩ : ∃ s, L[i]? = some s := ⟨_, List.getElem?_eq_getElem hi⟩
  obtain ⟨r, cap, e, x0, x1, x2⟩ := row_at h.own hs
  rw [hs]
  simp only [Option.map_some, Option.getD_some]
  have c1 := h.c1
  have k1 := cell1 hk
  have k2 := cell1 ht
  subst e
  have hiI : (i : Int) < (L.length : Int) := by omega
  have hi0 : (0 : Int) ≤ (i : Int) := by omega
  generalize L.length = N at *
  clear h hs hk ht
  go_enter Tryz.func95, Tryz.ntmps95
  go_wp2_with fail
  go_region
  go_wp2
  go_ret
  exact ⟨rfl, rfl⟩
end
end Go.Proofs.YtbifmcadllilhaaGreat.Rg
namespace Go.Proofs.YtbifmcadllilhaaGreat.Rg
open Go.RowKit Go.Shelf Go.Sort
open Go.Proofs.YtbifmcadllilhaaGreat.It
attribute [local go_sem] Oper.semAt_some
set_option linter.unusedVariables false

theorem plc_iff : ∀ {L : List Sg} {a b k : Int}, Cov a L b → ∀ i s, L[i]? = some s → (k ≤ s.hi ↔ plc L k ≤ i)
  | [], a, b, k, h, i, s, hs => by simp at hs
  | t :: r, a, b, k, h, 0, s, hs => by
    simp at hs; subst hs
    simp only [plc]
    split
    · simp_all
    · simp_all
  | t :: r, a, b, k, h, i + 1, s, hs => by
    have ih := plc_iff (k := k) h.2.2 i s (by simpa using hs)
    have hm := cov_mem h.2.2 s (List.mem_of_getElem? (by simpa using hs))
    simp only [plc]
    split
    · rename_i e; exact ⟨fun _ => by omega, fun _ => by omega⟩
    · rw [ih]; omega
section
variable {B b : Nat} {w w' : World} {lim : Int} {v : Value} {L : List Sg}

theorem kp_grow (w : World) (m : Nat) (os : Array Obj) : Kp Nu w (grow (w.drewN m) os) := Kp.of_below (below_grown_sl _ _ _ _ (Nat.le_refl _))

set_option maxHeartbeats 1000000 in
theorem place_any (h : Tb B w b lim v L) (key : Int) :
    Calls Tryz.prog 81 #[.pointer (some ⟨b, 0, none⟩), .int .u64 key] w fun e w' => e = .returned (.int .i64 (plc L key)) ∧ Kp Nu w w' := by
  have K2 : Kp Nu w ((w.alloc (.cells #[.pointer (some ⟨b, 0, none⟩)] 80)).alloc (.cells #[.int .u64 key] 24)) := (Kp.alloc w _ Nu).andAlloc _
  have hl : (L.length : Int) ≤ 8192 := by have := h.len; have := h.lim1; omega
  have T2 := h.nu K2
  have x0 : ((w.alloc (.cells #[.pointer (some ⟨b, 0, none⟩)] 80)).alloc (.cells #[.int .u64 key] 24)).heap[w.heap.size]? = some (.cells #[.pointer (some ⟨b, 0, none⟩)] 80 (0, 0)) := (Below.heap_alloc _ _ _ (by simp)).trans (heap_alloc_new w _)
  have x1 : ((w.alloc (.cells #[.pointer (some ⟨b, 0, none⟩)] 80)).alloc (.cells #[.int .u64 key] 24)).heap[w.heap.size + 1]? = some (.cells #[.int .u64 key] 24 (0, 0)) := by
    have := heap_alloc_new (w.alloc (.cells #[.pointer (some ⟨b, 0, none⟩)] 80)) (.cells #[.int .u64 key] 24)
    rwa [World.size_alloc] at this
  generalize hW : (w.alloc (.cells #[.pointer (some ⟨b, 0, none⟩)] 80)).alloc (.cells #[.int .u64 key] 24) = W at K2 T2 x0 x1
  have SE := Any.sort_Search Tryz.search 95 #[.pointer (some ⟨w.heap.size + 1, 0, none⟩), .pointer (some ⟨w.heap.size, 0, none⟩)] L.length (fun i => ((L[i]?).map fun s => decide (key ≤ s.hi)).getD true) W (enters_of Tryz.func95 (by kernel_rfl) rfl) (by omega)
    (fun m os i hi => by
      have kk := kp_grow W m os
      refine (place1_any (T2.nu kk) (w.heap.size + 1) w.heap.size key ((kk.block _ (blk_lt x1) (fun h => h)).trans x1) ((kk.block _ (blk_lt x0) (fun h => h)).trans x0) i hi).mono ?_
      rintro e w' ⟨rfl, rfl⟩
      exact ⟨rfl, 1, #[], by rw [grow_empty]; rfl⟩)
    (fun a c hac hc ha => by
      have e1 : L[a]? = some L[a] := List.getElem?_eq_getElem (by omega)
      have e2 : L[c]? = some L[c] := List.getElem?_eq_getElem hc
      simp only [e1, e2, Option.map_some, Option.getD_some, decide_eq_true_eq] at ha ⊢
      rw [plc_iff h.tab.cov a _ e1] at ha
      rw [plc_iff h.tab.cov c _ e2]
      omega)
  rw [count_plc h.tab.cov] at SE
  change Calls Tryz.prog 45 _ _ _ at SE
  have c1 := T2.c1
  obtain ⟨r, cap, e, _⟩ := T2.row
  subst e
  have HK := hide K2
  subst hW
  generalize plc L key = PK at *
  generalize L.length = N at *
  clear T2 h x0 x1 K2
  go_enter Tryz.func81, Tryz.ntmps81
  go_wp2_with (go_at_call 45; refine SE.mono ?_; rintro e w' ⟨rfl, q, os, rfl⟩)
  go_ret
  exact ⟨rfl, HK.out.andNu (kp_grow _ _ _)⟩

set_option maxHeartbeats 1000000 in
/-- the maker: the list of now, from the key's segment on, in a box -/
theorem from_any (h : Tb B w b lim v L) (key : Int) (k0 : 0 ≤ key) (k1 : key < 18446744073709551616) :
    Calls Tryz.prog 63 #[.pointer (some ⟨b, 0, none⟩), .int .u64 key] w fun e w' => ∃ Bn r cap, e = .returned (.func (.func 82) #[] #[.pointer (some ⟨Bn, 0, none⟩)]) ∧ w.heap.size ≤ Bn ∧ w'.heap[Bn]? = some (.cells #[.slice (some ⟨r, plc L key * 3, none⟩) (L.drop (plc L key)).length cap] 22 (0, 0)) ∧ v.ownBlock = some r ∧ Kp Nu w w' := by
  have mixed : Tryz.prog.follows .mixedOrders = true := by kernel_rfl
  have K1 : Kp Nu w (w.alloc (.cells #[.slice none 0 0] 22)) := Kp.alloc w _ Nu
  have MA := made_any (h.nu K1)
  have PL := place_any (h.nu K1.drew) key
  obtain ⟨r, cap, e, cur, hcur⟩ := h.row
  have hp : plc L key < L.length := h.tab.plc_lt k0 k1
  have hcap : L.length ≤ cap := by
    rcases h.own.2 with ⟨_, h0⟩ | ⟨r', cap', cur', e', hB, hg, h1, h2, h3, h4⟩
    · have := h.tab.ne; omega
    · rw [e] at e'; cases e'; exact h1
  have hbw : b < w.heap.size := blk_lt h.blk
  have c1 := (h.nu K1).c1
  have hl : (L.length : Int) ≤ 8192 := by have := h.len; have := h.lim1; omega
  have CC : ∀ W, Kp Nu (w.alloc (.cells #[.slice none 0 0] 22)) W → W.cell? ⟨b, 1, none⟩ = some v := fun W k => ((h.nu K1).nu k).c1
  have CS : ∀ W x, Kp Nu (w.alloc (.cells #[.slice none 0 0] 22)) W → (W.setCell ⟨w.heap.size, 0, none⟩ x).cell? ⟨b, 1, none⟩ = some v := fun W x k =>
    (World.cell?_of_block (Below.heap_setCell W ⟨w.heap.size, 0, none⟩ x b (by show b ≠ w.heap.size; omega))).trans (CC W k)
  have HB : Hid (∀ W, Kp Nu (w.alloc (.cells #[.slice none 0 0] 22)) W → W.heap[w.heap.size]? = some (.cells #[.slice none 0 0] 22 (0, 0))) := fun W k => new_at w _ k
  have hd : (L.drop (plc L key)).length = L.length - plc L key := by simp
  rw [hd]
  subst e
  generalize plc L key = p at *
  generalize L.length = N at *
  have hpI : (p : Int) ≤ (N : Int) := by omega
  have hne : ¬ cap = p := by omega
  clear hp hcap
  have hp0 : (0 : Int) ≤ (p : Int) := by omega
  have htn : ((p : Int)).toNat = p := by omega
  clear h hd hcur
  go_enter Tryz.func63, Tryz.ntmps63
  go_wp2_with (go_at_call 80; refine MA.mono ?_; rintro e w' ⟨rfl, rfl⟩)
  clear MA
  go_region_held (fun W => W.cell? ⟨b, 1, none⟩ = some (.slice (some ⟨r, 0, none⟩) N cap)) (first | (refine CS _ _ ?_; repeat (first | assumption | exact Kp.refl _ _ | apply Kp.andAlloc | apply Kp.drew)) | (refine CC _ ?_; repeat (first | assumption | exact Kp.refl _ _ | apply Kp.andAlloc | apply Kp.drew))) (first | (go_at_call 81; refine PL.mono ?_; rintro e w2 ⟨rfl, hk2⟩; have hk3 : Kp Nu (w.alloc (.cells #[.slice none 0 0] 22)) w2 := (Kp.refl Nu _).drew.andNu hk2; have fz := free3 (HB.out _ hk3) 0; have cz := cell1 (HB.out _ hk3)))
  all_goals go_wp2
  all_goals go_ret
  all_goals
    refine ⟨w.heap.size, r, _, rfl, Nat.le_refl _, set3 (HB.out _ (by assumption)) 0 _, rfl, ?_⟩
    exact ((Kp.alloc w _ Nu).andNu (by assumption)).andSet _ _ (.inl (Nat.le_refl _))
end
end Go.Proofs.YtbifmcadllilhaaGreat.Rg
