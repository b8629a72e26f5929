import Derived.Test.YthajboipnjjgfaaBlA
import Derived.Shelf.SlIter.Collect
namespace Go.Proofs.Ythajboipnjjgfaa.Ly
open Go.RowKit Go.Maps Go.Shelf
set_option linter.unusedVariables false

/-- a link's value -/
def encV (p : Int × Int) : Value := .agg #[.int .u8 p.1, .int .u8 p.2]
def Lo (p : Int × Int) : Prop := 0 ≤ p.1 ∧ p.1 < 256 ∧ 0 ≤ p.2 ∧ p.2 < 256
/-- the links that have come so far -/
def Kc (D : DataW Unit) (left : Lit → Bool) (ss : List (Int × Int)) : Prop := ss.Nodup ∧ ∀ p, p ∈ ss ↔ (Lo p ∧ Maps.has D (lk p.1 p.2) = true ∧ left (lk p.1 p.2) = false)
theorem Kc.start (D : DataW Unit) : Kc D (Maps.has D) [] := ⟨List.nodup_nil, fun p => by cases Maps.has D (lk p.1 p.2) <;> simp⟩
theorem Kc.step {D : DataW Unit} {left : Lit → Bool} {ss : List (Int × Int)} (h : Kc D left ss) {p : Int × Int} (hp : Lo p) {y : DataW Unit} (hl : left (lk p.1 p.2) = true) (hat : ∀ zd, D.atKey (lk p.1 p.2) zd = y) : Kc D (fun z => left z && !z.sameKey (lk p.1 p.2)) (ss ++ [p]) := by
  have hhas : Maps.has D (lk p.1 p.2) = true := has_true_of_atKey hat
  have hnew : p ∉ ss := fun hx => by have := ((h.2 p).1 hx).2.2; rw [hl] at this; cases this
  refine ⟨List.nodup_append.2 ⟨h.1, by simp, fun a ha b hb => by simp at hb; subst hb; exact fun e => hnew (e ▸ ha)⟩, fun y => ?_⟩
  rw [List.mem_append, List.mem_singleton, h.2 y]
  constructor
  · rintro (⟨h1, h2, h3⟩ | rfl)
    · exact ⟨h1, h2, by simp [h3]⟩
    · exact ⟨hp, hhas, by simp [Lit.sameKey, lk]⟩
  · rintro ⟨h1, h2, h3⟩
    by_cases e : y = p
    · exact .inr e
    · left
      refine ⟨h1, h2, ?_⟩
      have : lk y.1 y.2 ≠ lk p.1 p.2 := fun e' => e (by
        obtain ⟨a, b⟩ := lk_inj h1.1 h1.2.1 h1.2.2.1 h1.2.2.2 hp.1 hp.2.1 hp.2.2.1 hp.2.2.2 e'
        exact Prod.ext a b)
      simp only [sameKey_ne this, Bool.not_false, Bool.and_true] at h3
      exact h3
/-- what the links of a map are -/
def Ks (D : DataW Unit) (ss : List (Int × Int)) : Prop := ss.Nodup ∧ (∀ p, p ∈ ss ↔ (Lo p ∧ bar D p.1 p.2 = true)) ∧ ss.length ≤ Maps.size D
theorem Kc.done {D : DataW Unit} {left : Lit → Bool} {ss : List (Int × Int)} (h : Kc D left ss) (hl : ∀ k, left k = false) (hs : ss.length ≤ Maps.size D) : Ks D ss :=
  ⟨h.1, fun p => by rw [h.2 p, hl]; simp [bar], hs⟩

set_option maxRecDepth 100000 in
set_option maxHeartbeats 1000000 in
theorem keys1 (F : Fence) (n : Nat) (h81 : F.fn 81) (hro : F.round = none) (hn : 1 ≤ n) (l Bm b nn : Nat) (D : DataW Unit) (J : List (Int × Int) → World → Prop)
    (hY : ∀ pre x W, J pre W → pre.length < Maps.size D → YieldAt F (n - 1) Try.prog l #[encV x] W fun e W' => e = .returned (.bool true) ∧ J (pre ++ [x]) W' ∧ KeepsWalks W W')
    (W : World) (hJ : AbidesFrom W.heap.size J) (hm : W.cell? ⟨Bm, 0, none⟩ = some (.map (some b))) (hown : W.ownsMap Try.prog 86 unitElem b nn D) (h0 : J [] W) :
    CallsIn F n Try.prog 81 #[.func (.yield l) #[] #[], .pointer (some ⟨Bm, 0, none⟩)] W fun e W' => (∃ v, e = .returned v) ∧ ∃ ss, Ks D ss ∧ J ss W' := by
  have mixed : Try.prog.follows .mixedOrders = true := by kernel_rfl
  refine callsIn_of_wp Try.func81 rfl h81 ?_ hro
  simp only [Try.ntmps81, List.size_toArray, List.length_cons, List.length_nil, Nat.reduceAdd, Nat.reduceSub, Array.replicate_succ, Array.replicate_zero, List.push_toArray, List.append_toArray, List.nil_append, List.cons_append]
  gi_wp2_with (first
    | (gi_at_range; refine wpListIn_range_own _ rfl _ 75 rfl 86 92 keyed Try.underlying75 _ b nn _ rfl hown ?_; intro w0 hrg0 hg0 hs0)
    | gi_in)
  go_frame
  gi_loopw [3] (fun _ wr => ∃ (left : Lit → Bool) (cnt : Nat) (ss : List (Int × Int)), wr.ranges Try.prog 86 unitElem b W.heap.size nn D left cnt ∧ ss.length + cnt ≤ Maps.size D ∧ Hid (Kc D left ss) ∧ J ss wr)
    (fun _ wr => wr.rangeLeft b W.heap.size)
  case atStart => exact ⟨_, _, [], hrg0, by simp, Kc.start D, hJ [] W w0 none h0 hg0 (fun r e => by cases e)⟩
  case round =>
    obtain ⟨left, cnt, ss, hrg, hcs, hC, hJs⟩ := hrel
    gi_wp2_with (first
      | (gi_at_next; refine wpListIn_next_ranges _ rfl _ rfl 86 keyed unitElem (α := Int × Int) (β := Unit) encV (fun _ => .agg #[]) (fun key kl hk => by obtain ⟨f, t, e, _⟩ := lk_inv hk; exact ⟨(f, t), e⟩) (fun v y hv => ⟨(), (unitElem_inv hv).1⟩) b W.heap.size nn _ _ _ rfl hrg ?_ ?_)
      | gi_in)
    · intro hc0 hl0
      gi_wp2
      go_end0
      exact ⟨⟨_, rfl⟩, ss, hC.out.done hl0 (by omega), hJs⟩
    · intro f t kl yd yp w2 cnt2 hkey hlk hv hat hrg2 hlt hg2 hs2 hen
      obtain ⟨f', t', e, rfl, f0, f1, t0, t1⟩ := lk_inv hkey
      obtain ⟨rfl, rfl⟩ : f = f' ∧ t = t' := by simpa [encV] using e
      have hJ2 : J ss w2 := hJ ss wr w2 (some W.heap.size) hJs hg2 (fun r e => by cases e; exact ⟨Nat.le_refl _, hrg.iter_walk⟩)
      have hJ3 : J ss (w2.alloc (.cells #[.int .u8 f, .int .u8 t] 86)) := hJ ss w2 _ none hJ2 ⟨rfl, rfl, rfl, by simp, fun k hk _ => Below.heap_alloc _ _ k hk⟩ (fun r e => by cases e)
      have hrg3 := hrg2.alloc (.cells #[.int .u8 f, .int .u8 t] 86)
      obtain ⟨fn, tmps, assign, body, hy, hR⟩ := hY ss (f, t) _ hJ3 (by omega)
      have HC2 := hide (hC.out.step (p := (f, t)) ⟨f0, f1, t0, t1⟩ hlk hat)
      clear hs2 e hC hkey
      unfold encV at hen hy
      gi_wp2
      refine hR.mono ?_
      rintro e W3 ⟨rfl, hJ4, hk3⟩
      gi_wp2
      have hrg4 := hrg3.of_walks hk3
      go_roundw
      case rel => exact ⟨_, cnt2, ss ++ [(f, t)], hrg4, by simp; omega, HC2, hJ4⟩
      case measure => rw [hrg4.left_eq, hrg.left_eq]; exact hlt

theorem keys_gives (F : Fence) (n : Nat) (h81 : F.fn 81) (hro : F.round = none) (hn : 1 ≤ n) (Bm b nn : Nat) (D : DataW Unit) (w : World) (hm : w.cell? ⟨Bm, 0, none⟩ = some (.map (some b))) (hown : w.ownsMap Try.prog 86 unitElem b nn D) :
    SeqGives F n Try.prog 81 #[.pointer (some ⟨Bm, 0, none⟩)] encV (Ks D) (Maps.size D) w := fun l J W hW hJ hY h0 => by
  have hown' : W.ownsMap Try.prog 86 unitElem b nn D := by
    have hbl := hown.lt
    obtain ⟨es, clock, hb, Ft, hs, hD⟩ := hown
    exact ⟨es, clock, (hW.block b hbl).trans hb, Ft, hs, hD⟩
  exact keys1 F n h81 hro hn l Bm b nn D J hY W hJ ((hW.cell (p := ⟨Bm, 0, none⟩) (World.block_lt_of_cell? w ⟨Bm, 0, none⟩ hm)).trans hm) hown' h0

theorem keys_in (F : Fence) (n : Nat) (h61 : F.fn 61) (hro : F.round = none) (mb : Option Nat) (w : World) :
    CallsIn F n Try.prog 61 #[.map mb] w fun e w' => e = .returned (.func (.func 81) #[] #[.pointer (some ⟨w.heap.size, 0, none⟩)]) ∧ w' = w.alloc (.cells #[.map mb] 75) := by
  refine callsIn_of_wp Try.func61 rfl h61 ?_ hro
  simp only [Try.ntmps61, List.size_toArray, List.length_cons, List.length_nil, Nat.reduceAdd, Nat.reduceSub, Array.replicate_succ, Array.replicate_zero, List.push_toArray, List.append_toArray, List.nil_append, List.cons_append]
  gi_wp2
  go_ret
  exact ⟨rfl, rfl⟩

end Go.Proofs.Ythajboipnjjgfaa.Ly
