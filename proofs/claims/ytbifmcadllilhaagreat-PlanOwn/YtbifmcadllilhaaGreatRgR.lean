import Derived.Test.YtbifmcadllilhaaGreatRgL
import Derived.ProofKit
import Derived.OpenShut
import Derived.SizedLaws
import Derived.Carry
import Derived.Deep.Slices
import Derived.Deep.Fields
namespace Go.Proofs.YtbifmcadllilhaaGreat.Rg
open Go.RowKit Go.Shelf Go.Sort
open Go.Proofs.YtbifmcadllilhaaGreat.It
attribute [local go_sem] Oper.semAt_some
set_option linter.unusedVariables false

/-- a piece of code that neither leaves nor panics -/
def Calm (Q : Exit → Act → World → Prop) : Exit → Act → World → Prop
  | .normal, a, w => Q .normal a w
  | _, _, _ => False
theorem wp_calm {F : Fence} {n : Nat} {P : Program} {c : Code} {Q : Exit → Act → World → Prop} {a : Act} {w : World} (h : c.wpIn F n P (Calm Q) a w) : c.wpIn F n P Q a w :=
  wpIn_mono h (fun e a w h => by cases e <;> first | exact h | exact h.elim)

/-- what a step that turns cells alone, none of them of K, keeps -/
theorem kf_cells {B : Nat} {S : Nat → Prop} {V V' : World} (h : Kp S V V') (hS : ∀ k, S k → ∃ c t m, V.heap[k]? = some (.cells c t m)) : KeepsFrom B V V' :=
  ⟨h.size, fun k o _ hk ho => (h.block k (blk_lt hk) (fun hs => by
    obtain ⟨c, t, m, e⟩ := hS k hs
    rw [hk] at e; cases e; cases ho)).trans hk⟩
theorem kc_cells {K : Nat → TypeId → Prop} {S : Nat → Prop} {V V' : World} (h : Kp S V V') (hS : ∀ k c t m, S k → V.heap[k]? = some (.cells c t m) → ¬ K k t) : Kc K V V' := fun k c t m hK e =>
  (h.block k (blk_lt e) (fun hs => hS k c t m hs e hK)).trans e
theorem own_type {w : World} {B n g : Nat} {u : Value} {xs : List Value} (h : w.ownsRow B 38 3 u n xs) (hg : u.ownBlock = some g) : B ≤ g ∧ ∃ c, w.heap[g]? = some (.cells c 38 (0, 0)) := by
  rcases h.2 with ⟨rfl, h0⟩ | ⟨g', cap, cur, rfl, hb', hg', _⟩
  · cases hg
  · simp [Value.ownBlock] at hg; subst hg; exact ⟨hb', cur, hg'⟩

/-- the loop over Within that lays: between two rounds -/
structure Lp (w V : World) (BX Bl Bh : Nat) (lo hi : Int) (C : List Sg) : Prop where
  box : ∃ u, V.heap[BX]? = some (.cells #[u] 22 (0, 0)) ∧ V.ownsRow w.heap.size 38 3 u C.length (cells C)
  bl : V.heap[Bl]? = some (.cells #[.int .u64 lo] 24 (0, 0))
  bh : V.heap[Bh]? = some (.cells #[.int .u64 hi] 24 (0, 0))
theorem Lp.own {w : World} {BX Bl Bh : Nat} {lo hi : Int} {β : Type} (B : Nat) (f : β → List Sg) : OwnFrom B (fun p V => Lp w V BX Bl Bh lo hi (f p)) := fun p X Z row hs hg hr => by
  obtain ⟨⟨u, h1, h2⟩, h3, h4⟩ := hs
  refine ⟨⟨u, own_cells (β := Unit) B _ _ _ _ () X Z row h1 hg hr, own_keep h2 (fun g e => hg.block g (own_lt h2 e) (fun e2 => ?_))⟩, own_cells (β := Unit) B _ _ _ _ () X Z row h3 hg hr, own_cells (β := Unit) B _ _ _ _ () X Z row h4 hg hr⟩
  obtain ⟨_, o, ho, hc⟩ := hr g e2.symm
  obtain ⟨_, c, e3⟩ := own_type h2 e
  rw [e3] at ho; cases ho; cases hc
theorem Lp.nu {w V V' : World} {BX Bl Bh : Nat} {lo hi : Int} {C : List Sg} (h : Lp w V BX Bl Bh lo hi C) (k : Kp Nu V V') : Lp w V' BX Bl Bh lo hi C := by
  obtain ⟨⟨u, h1, h2⟩, h3, h4⟩ := h
  exact ⟨⟨u, (k.block _ (blk_lt h1) (fun h => h)).trans h1, own_keep h2 (fun g e => k.block g (own_lt h2 e) (fun h => h))⟩, (k.block _ (blk_lt h3) (fun h => h)).trans h3, (k.block _ (blk_lt h4) (fun h => h)).trans h4⟩
/-- one round: what lay leaves, and the box set -/
theorem Lp.step {w V V1 : World} {BX Bl Bh r : Nat} {lo hi : Int} {C C' : List Sg} {u u' : Value} (h3 : V.heap[Bl]? = some (.cells #[.int .u64 lo] 24 (0, 0))) (h4 : V.heap[Bh]? = some (.cells #[.int .u64 hi] 24 (0, 0))) (h1 : V.heap[BX]? = some (.cells #[u] 22 (0, 0))) (h2 : V.ownsRow w.heap.size 38 3 u C.length (cells C)) (hr : r < w.heap.size) (hBX : w.heap.size ≤ BX)
    (k : Kp (fun k => some k = u.ownBlock) V V1) (ho : V1.ownsRow w.heap.size 38 3 u' C'.length (cells C')) (hB : Below w.heap.size w V) :
    Lp w (V1.setCell ⟨BX, 0, none⟩ u') BX Bl Bh lo hi C' ∧ KeepsFrom w.heap.size V (V1.setCell ⟨BX, 0, none⟩ u') ∧ Kc (KW Bl Bh r) V (V1.setCell ⟨BX, 0, none⟩ u') ∧ Below w.heap.size w (V1.setCell ⟨BX, 0, none⟩ u') := by
  have hty : ∀ g, some g = u.ownBlock → w.heap.size ≤ g ∧ ∃ c, V.heap[g]? = some (.cells c 38 (0, 0)) := fun g e => own_type h2 e.symm
  have nu : ∀ (g : Nat) (c : Array Value) (t : TypeId) (m : Nat × Nat), V.heap[g]? = some (Obj.cells c t m) → t ≠ 38 → V1.heap[g]? = some (Obj.cells c t m) := fun g c t m e ht => (k.block g (blk_lt e) (fun hs => by
    obtain ⟨_, c', e'⟩ := hty g hs
    rw [e] at e'; cases e'; exact ht rfl)).trans e
  have b1 := nu BX _ _ _ h1 (by decide)
  have hne : ∀ (g : Nat) (c : Array Value) (t : TypeId) (m : Nat × Nat), V1.heap[g]? = some (Obj.cells c t m) → t ≠ 22 → g ≠ BX := fun g c t m e ht e2 => by
    subst e2; rw [b1] at e; cases e; exact ht rfl
  have st : ∀ (g : Nat) (c : Array Value) (t : TypeId) (m : Nat × Nat), V1.heap[g]? = some (Obj.cells c t m) → t ≠ 22 → (V1.setCell ⟨BX, 0, none⟩ u').heap[g]? = some (Obj.cells c t m) := fun g c t m e ht => (Below.heap_setCell V1 ⟨BX, 0, none⟩ u' g (hne g c t m e ht)).trans e
  have kS : Kp (fun k => some k = u.ownBlock ∨ k = BX) V (V1.setCell ⟨BX, 0, none⟩ u') := (k.mono (fun i _ h => .inl h)).andSet _ _ (.inr (.inr rfl))
  have hS : ∀ j, (some j = u.ownBlock ∨ j = BX) → ∃ (c : Array Value) (t : TypeId), V.heap[j]? = some (Obj.cells c t (0, 0)) ∧ (t = 38 ∧ w.heap.size ≤ j ∨ t = 22 ∧ j = BX) := fun j hj => by
    rcases hj with hj | rfl
    · obtain ⟨h5, c, e⟩ := hty j hj
      exact ⟨c, 38, e, .inl ⟨rfl, h5⟩⟩
    · exact ⟨_, 22, h1, .inr ⟨rfl, rfl⟩⟩
  refine ⟨⟨⟨u', by rw [set3 b1 0 u']; rfl, own_keep ho (fun g e => ?_)⟩, st _ _ _ _ (nu _ _ _ _ h3 (by decide)) (by decide), st _ _ _ _ (nu _ _ _ _ h4 (by decide)) (by decide)⟩, kf_cells kS (fun j hj => ?_), kc_cells kS (fun j c t m hj e hK => ?_), ?_⟩
  · obtain ⟨_, c, e3⟩ := own_type ho e
    exact Below.heap_setCell V1 ⟨BX, 0, none⟩ u' g (hne g _ _ _ e3 (by decide))
  · obtain ⟨c, t, e, _⟩ := hS j hj
    exact ⟨c, t, _, e⟩
  · obtain ⟨c', t', e', h5⟩ := hS j hj
    rw [e] at e'; cases e'
    rcases hK with rfl | rfl | rfl | rfl
    · rw [h3] at e; cases e; rcases h5 with ⟨h, _⟩ | ⟨h, _⟩ <;> cases h
    · rw [h4] at e; cases e; rcases h5 with ⟨h, _⟩ | ⟨h, _⟩ <;> cases h
    · rcases h5 with ⟨_, h⟩ | ⟨_, h⟩ <;> omega
    · rcases h5 with ⟨h, _⟩ | ⟨h, _⟩ <;> cases h
  · refine hB.trans (kS.below w.heap.size hB.size (fun j hj => ?_))
    rcases hj with hj | rfl
    · exact (hty j hj).1
    · exact hBX

theorem low_len (L : List Sg) (lo : Int) : (lowP L lo).length ≤ L.length := by
  unfold lowP
  split
  · exact tk_len L _ _
  · simp

theorem mid_step {w V V1 : World} {BX : Nat} {n : Nat} {X : List Value} {C' : List Sg} {u u' : Value} (h1 : V.heap[BX]? = some (.cells #[u] 22 (0, 0))) (h2 : V.ownsRow w.heap.size 38 3 u n X) (hBX : w.heap.size ≤ BX)
    (k : Kp (fun k => some k = u.ownBlock) V V1) (ho : V1.ownsRow w.heap.size 38 3 u' C'.length (cells C')) (hB : Below w.heap.size w V) :
    V1.heap[BX]? = some (.cells #[u] 22 (0, 0)) ∧ (V1.setCell ⟨BX, 0, none⟩ u').heap[BX]? = some (.cells #[u'] 22 (0, 0)) ∧ (V1.setCell ⟨BX, 0, none⟩ u').ownsRow w.heap.size 38 3 u' C'.length (cells C') ∧ KeepsFrom w.heap.size V (V1.setCell ⟨BX, 0, none⟩ u') ∧ Below w.heap.size w (V1.setCell ⟨BX, 0, none⟩ u') := by
  have hty : ∀ g, some g = u.ownBlock → w.heap.size ≤ g ∧ ∃ c, V.heap[g]? = some (.cells c 38 (0, 0)) := fun g e => own_type h2 e.symm
  have b1 : V1.heap[BX]? = some (.cells #[u] 22 (0, 0)) := (k.block _ (blk_lt h1) (fun hs => by
    obtain ⟨_, c, e3⟩ := hty _ hs
    rw [h1] at e3; cases e3)).trans h1
  have kS : Kp (fun k => some k = u.ownBlock ∨ k = BX) V (V1.setCell ⟨BX, 0, none⟩ u') := (k.mono (fun i _ h => .inl h)).andSet _ _ (.inr (.inr rfl))
  refine ⟨b1, by rw [set3 b1 0 u']; rfl, own_keep ho (fun g e => ?_), kf_cells kS (fun j hj => ?_), hB.trans (kS.below w.heap.size hB.size (fun j hj => ?_))⟩
  · obtain ⟨_, c, e3⟩ := own_type ho e
    refine Below.heap_setCell V1 ⟨BX, 0, none⟩ u' g (fun e4 => ?_)
    have e5 : g = BX := e4
    subst e5
    rw [b1] at e3; cases e3
  · rcases hj with hj | rfl
    · obtain ⟨_, c, e⟩ := hty j hj
      exact ⟨c, _, _, e⟩
    · exact ⟨_, _, _, h1⟩
  · rcases hj with hj | rfl
    · exact (hty j hj).1
    · exact hBX

theorem fin_tb {B b : Nat} {w V : World} {lim : Int} {v u : Value} {L A : List Sg} (h : Tb B w b lim v L) (hB : Below w.heap.size w V) (ho : V.ownsRow w.heap.size 38 3 u A.length (cells A)) (hBw : B ≤ w.heap.size) (ht : Tab A) (hl : (A.length : Int) ≤ lim) :
    Tb B (V.setCell ⟨b, 1, none⟩ u) b lim u A ∧ Kp (fun k => k = b) w (V.setCell ⟨b, 1, none⟩ u) := by
  have hb := (hB.block b (blk_lt h.blk)).trans h.blk
  refine ⟨⟨by rw [set3 hb 1 u]; rfl, h.low, own_base (own_keep ho (fun g e => ?_)) hBw, ht, hl, h.lim1⟩, ((Kp.of_below hB).mono (fun i _ h => h.elim)).andSet _ _ (.inr rfl)⟩
  obtain ⟨_, c, e3⟩ := own_type ho e
  refine Below.heap_setCell V ⟨b, 1, none⟩ u g (fun e4 => ?_)
  have e5 : g = b := e4
  subst e5
  rw [hb] at e3; cases e3
theorem Tb.put {B b : Nat} {X : World} {lim : Int} {v : Value} {L : List Sg} (h : Tb B X b lim v L) {D : Nat} {o : Obj} (o' : Obj) (hD : X.heap[D]? = some o) (ho : o.isCells = false) : Tb B (X.putObj D o') b lim v L :=
  ⟨(World.putObj_heap_other (fun e => by have e2 : b = D := e; subst e2; rw [h.blk] at hD; cases hD; cases ho)).trans h.blk, h.low, own_keep h.own (fun g e => by
    obtain ⟨_, c, e3⟩ := own_type h.own e
    exact World.putObj_heap_other (fun e4 => by subst e4; rw [e3] at hD; cases hD; cases ho)), h.tab, h.len, h.lim1⟩
theorem Kp.put {S : Nat → Prop} {w X : World} (h : Kp S w X) {D : Nat} (o' : Obj) (hD : w.heap.size ≤ D) : Kp S w (X.putObj D o') :=
  ⟨h.os, h.tape, h.output, by have := h.size; simp; omega, fun k hk hs => (World.putObj_heap_other (by omega)).trans (h.block k hk hs)⟩
end Go.Proofs.YtbifmcadllilhaaGreat.Rg
namespace Go.Proofs.YtbifmcadllilhaaGreat.Rg
open Go.RowKit Go.Shelf Go.Sort
open Go.Proofs.YtbifmcadllilhaaGreat.It
set_option linter.unusedVariables false

set_option maxRecDepth 100000 in
set_option maxHeartbeats 1000000 in
theorem follows_nil (w : World) (ad : Option Addr) (cap : Nat) (s : Sg) (hs : s.lo = 0) :
    Calls Tryz.prog 88 #[enc s, .slice ad 0 cap] w fun e w' => e = .returned (.bool true) ∧ Kp Nu w w' := by
  have mixed : Tryz.prog.follows .mixedOrders = true := by kernel_rfl
  have h1 : (s.lo == 0) = true := by simp [hs]
  unfold enc
  go_enter Tryz.func88, Tryz.ntmps88
  go_wp2
  go_ret
  exact ⟨rfl, Kp.alloc w _ Nu⟩
set_option maxRecDepth 100000 in
set_option maxHeartbeats 1000000 in
theorem follows_snoc (w : World) (base : Nat) (u : Value) (A : List Sg) (t s : Sg) (hown : w.ownsRow base 38 3 u (A.length + 1) (cells (A ++ [t]))) (h0 : 0 ≤ t.hi) (h1 : t.hi < 18446744073709551615) (hs : s.lo = t.hi + 1) (hA : A.length + 1 ≤ 20000) :
    Calls Tryz.prog 88 #[enc s, u] w fun e w' => e = .returned (.bool true) ∧ Kp Nu w w' := by
  have mixed : Tryz.prog.follows .mixedOrders = true := by kernel_rfl
  have ht : (A ++ [t])[A.length]? = some t := by simp
  have hl : (A ++ [t]).length = A.length + 1 := by simp
  have hown2 : w.ownsRow base 38 3 u (A ++ [t]).length (cells (A ++ [t])) := by rw [hl]; exact hown
  obtain ⟨r, cap, hu, x0, x1, x2⟩ := row_at hown2 ht
  rw [hl] at hu
  have hrlt : r < w.heap.size := own_lt hown (by rw [hu]; rfl)
  have y1 : (w.alloc (.cells #[.int .u64 s.lo, .int .u64 s.hi, .int .u8 s.h] 38)).cell? ⟨r, A.length * 3 + 1, none⟩ = some (.int .u64 t.hi) := (World.cell?_of_block (Below.heap_alloc w _ r hrlt)).trans x1
  have g1 : s.lo > 0 := by omega
  have g0 : decide (0 < s.lo) = true := decide_eq_true g1
  have g2 : IntKind.u64.wrap (s.lo - 1) = s.lo - 1 := by rw [IntKind.wrap_u64]; omega
  have g3 : (s.lo - 1 == t.hi) = true := by simp; omega
  clear hs h0 h1
  generalize A.length = N at *
  subst hu
  clear hown hown2 x0 x1 x2 ht hl
  unfold enc
  go_enter Tryz.func88, Tryz.ntmps88
  go_wp2_with fail
  go_region
  go_wp2
  go_ret
  exact ⟨by simp, (Kp.alloc w _ Nu).drew⟩

set_option maxRecDepth 100000 in
set_option maxHeartbeats 1000000 in
theorem fault_ok (w : World) (u : Value) (s : Sg) (hF : ∀ W, Kp Nu w W → Calls Tryz.prog 88 #[enc s, u] W fun e w' => e = .returned (.bool true) ∧ Kp Nu W w') (hu : ∃ ad n cap, u = .slice ad n cap) (hs : s.lo ≤ s.hi) (hh : s.h < 16) :
    Calls Tryz.prog 69 #[enc s, u] w fun e w' => e = .returned (.int .i64 0) ∧ Kp Nu w w' := by
  obtain ⟨ad, n, cap, rfl⟩ := hu
  have KA := Kp.alloc w (.cells #[.int .u64 s.lo, .int .u64 s.hi, .int .u8 s.h] 38) Nu
  have FO := hF _ KA
  have HB : ∀ W, Kp Nu (w.alloc (.cells #[.int .u64 s.lo, .int .u64 s.hi, .int .u8 s.h] 38)) W → W.cell? ⟨w.heap.size, 0, none⟩ = some (.int .u64 s.lo) ∧ W.cell? ⟨w.heap.size, 1, none⟩ = some (.int .u64 s.hi) ∧ W.cell? ⟨w.heap.size, 2, none⟩ = some (.int .u8 s.h) := fun W k => cell3 (new_at w _ k)
  have hgt : ¬ s.lo > s.hi := by omega
  have IH := fun W => isHost_any s.h W
  rw [decide_eq_true hh] at IH
  unfold enc at FO ⊢
  clear hF
  go_enter Tryz.func69, Tryz.ntmps69
  go_wp2_with fail
  refine FO.mono ?_; rintro e w2 ⟨rfl, hk2⟩
  obtain ⟨a0, a1, a2⟩ := HB _ hk2
  clear FO HB
  go_wp2_with fail
  refine (IH _).mono ?_; rintro e w3 ⟨rfl, hw3⟩
  obtain rfl := hw3.symm
  go_wp2
  go_ret
  exact ⟨rfl, KA.andNu hk2⟩

set_option maxHeartbeats 400000 in
theorem limit_ok (n : Int) (w : World) (h1 : 1 ≤ n) (h2 : n ≤ 8192) : Calls Tryz.prog 68 #[.int .i64 n] w fun e w' => e = .returned (.bool true) ∧ w' = w := by
  have g1 : n ≥ 1 := h1
  go_enter Tryz.func68, Tryz.ntmps68
  go_wp2
  go_ret
  exact ⟨by simp, rfl⟩
set_option maxHeartbeats 400000 in
theorem limit_bad (n : Int) (w : World) (h : ¬ (1 ≤ n ∧ n ≤ 8192)) : Calls Tryz.prog 68 #[.int .i64 n] w fun e w' => e = .returned (.bool false) ∧ w' = w := by
  by_cases h1 : 1 ≤ n
  · have g1 : n ≥ 1 := h1
    have g2 : ¬ n ≤ 8192 := by omega
    have g3 : decide (n ≤ 8192) = false := decide_eq_false g2
    go_enter Tryz.func68, Tryz.ntmps68
    go_wp2
    go_ret
    exact ⟨by simp, rfl⟩
  · have g1 : ¬ n ≥ 1 := h1
    go_enter Tryz.func68, Tryz.ntmps68
    go_wp2
    go_ret
    exact ⟨by simp, rfl⟩

/-- the last of what has been laid ends where the next begins -/
theorem cov_last : ∀ {A : List Sg} {a m : Int} {t : Sg}, Cov a (A ++ [t]) m → t.hi + 1 = m
  | [], a, m, t, h => h.2.2
  | s :: A, a, m, t, h => cov_last (A := A) h.2.2
theorem cov_take : ∀ {M : List Sg} {a b : Int} {k : Nat} {s : Sg}, Cov a M b → M[k]? = some s → Cov a (M.take k) s.lo ∧ s.lo ≤ s.hi ∧ s.hi < b
  | [], a, b, k, s, h, hs => by simp at hs
  | t :: M, a, b, 0, s, h, hs => by
    simp at hs; subst hs
    have := cov_le h.2.2
    exact ⟨h.1.symm, by rw [h.1]; exact h.2.1, by omega⟩
  | t :: M, a, b, k + 1, s, h, hs => by
    obtain ⟨h1, h2, h3⟩ := cov_take (k := k) h.2.2 (by simpa using hs)
    exact ⟨⟨h.1, h.2.1, h1⟩, h2, h3⟩
end Go.Proofs.YtbifmcadllilhaaGreat.Rg
namespace Go.Proofs.YtbifmcadllilhaaGreat.Rg
open Go.RowKit Go.Shelf Go.Sort
open Go.Proofs.YtbifmcadllilhaaGreat.It
set_option linter.unusedVariables false

theorem Rs.nu {w w' : World} {u : Value} {M : List Sg} (h : Rs w u M) (k : Kp Nu w w') : Rs w' u M := by
  obtain ⟨r, off, cap, e, hc⟩ := h
  refine ⟨r, off, cap, e, fun i s hs => ?_⟩
  obtain ⟨x0, x1, x2⟩ := hc i s hs
  have key : ∀ {o : Nat} {x : Value}, w.cell? ⟨r, o, none⟩ = some x → w'.cell? ⟨r, o, none⟩ = some x := fun h =>
    (World.cell?_of_block (k.block _ (World.block_lt_of_cell? w _ h) (fun h => h))).trans h
  exact ⟨key x0, key x1, key x2⟩

/-- a list that may be loaded -/
structure Good (M : List Sg) : Prop where
  cov : Cov 0 M 18446744073709551616
  hs : ∀ s ∈ M, 0 ≤ s.h ∧ s.h < 16
theorem Good.tab {M : List Sg} (h : Good M) : Tab (lays [] M) := by
  obtain ⟨h1, h2⟩ := lays_cov (A := []) (a := 0) (m := 0) rfl h.cov
  refine ⟨h1, lays_alt trivial, fun s hs => ?_⟩
  obtain ⟨y, hy, e⟩ := lays_mem hs
  rw [← e]
  exact h.hs y (by simpa using hy)
theorem Good.ow {M : List Sg} (h : Good M) {k : Int} (k0 : 0 ≤ k) (k1 : k < 18446744073709551616) : ow (lays [] M) k = ow M k := by
  obtain ⟨h1, h2⟩ := lays_cov (A := []) (a := 0) (m := 0) rfl h.cov
  rw [h2 k k0 k1, if_neg (by omega)]

set_option maxRecDepth 100000 in
set_option maxHeartbeats 1000000 in
theorem load_good (w : World) (u : Value) (M : List Sg) (hrd : Rs w u M) (hg : Good M) (hM : M.length ≤ 8192) (lim : Int) (l1 : 1 ≤ lim) (l2 : lim ≤ 8192) (hfit : ((lays [] M).length : Int) ≤ lim) :
    Calls Tryz.prog 52 #[u, .int .i64 lim] w fun e w' => ∃ b v, e = .returned (.tuple #[.pointer (some ⟨b, 0, none⟩), .int .i64 0, .int .i64 0]) ∧ Tb w.heap.size w' b lim v (lays [] M) ∧ Kp Nu w w' := by
  have LI := limit_ok lim w l1 l2
  obtain ⟨r, off, cap, hu, hcells⟩ := hrd
  obtain ⟨N, hN⟩ : ∃ N, M.length = N := ⟨_, rfl⟩
  have hne : 0 < (lays [] M).length := hg.tab.ne
  have HR : Hid (Rs w u M) := ⟨r, off, cap, hu, hcells⟩
  have HG := hide hg
  have HN := hide hN
  have HF := hide hfit
  have HP := hide hne
  rw [hN] at hu hM
  subst hu
  clear hcells hg hN hfit hne
  go_enter Tryz.func52, Tryz.ntmps52
  go_wp2_with fail
  refine LI.mono ?_; rintro e w1 ⟨rfl, hw1⟩
  obtain rfl := hw1.symm
  clear LI hw1
  go_wp2_with fail
  go_loopw [7, 16] (fun l i wr => ∃ (k n : Nat) (adl : Option Addr) (cpl : Nat), k ≤ N ∧ i = .int .i64 (k : Int) ∧ l = .slice adl n cpl ∧ n ≤ 8192 ∧ Hid ((lays [] (M.take k)).length = n ∧ wr.ownsRow w.heap.size 38 3 (.slice adl n cpl) n (cells (lays [] (M.take k))) ∧ Kp Nu w wr)) (fun _ i _ => N - (intOf i).toNat)
  case atStart => exact ⟨0, 0, none, 0, by omega, rfl, rfl, by omega, ⟨rfl, ⟨rfl, .inl ⟨rfl, rfl⟩⟩, Kp.refl _ _⟩⟩
  case round =>
    obtain ⟨k, n, adl, cpl, hk, rfl, rfl, hn8, hI⟩ := hrel
    by_cases hlt : k < N
    · have hkM : k < M.length := by rw [HN.out]; exact hlt
      obtain ⟨s, hs⟩ : ∃ s, M[k]? = some s := ⟨_, List.getElem?_eq_getElem hkM⟩
      obtain ⟨hl, hown, hkp⟩ := hI.out
      obtain ⟨r', off', cap', hu', hc'⟩ := HR.out.nu hkp
      simp only [Value.slice.injEq, Option.some.injEq, Addr.mk.injEq, and_true] at hu'
      obtain ⟨⟨rfl, rfl⟩, hx1⟩ := hu'
      clear hx1
      obtain ⟨x0, x1, x2⟩ := hc' k s hs
      have hltI : (k : Int) < (N : Int) := by omega
      have hk0 : (0 : Int) ≤ (k : Int) := by omega
      have hkN : (k : Int) ≤ 8192 := by omega
      obtain ⟨t1, t2, t3⟩ := cov_take HG.out.cov hs
      have hh := HG.out.hs s (List.mem_of_getElem? hs)
      have KA := Kp.alloc wr (.cells #[.int .u64 s.lo, .int .u64 s.hi, .int .u8 s.h] 38) Nu
      have hle := lays_le (M.take k) []
      have hsz := hkp.size
      have FA : ∀ W, Kp Nu wr W → Calls Tryz.prog 69 #[.agg #[.int .u64 s.lo, .int .u64 s.hi, .int .u8 s.h], .slice adl n cpl] W fun e w' => e = .returned (.int .i64 0) ∧ Kp Nu W w' := fun W kW => by
        refine fault_ok W _ s (fun W' kW' => ?_) ⟨_, _, _, rfl⟩ t2 hh.2
        have k3 := kW.andNu kW'
        obtain ⟨c1, c2⟩ := lays_cov (A := []) (a := 0) (m := 0) rfl t1
        rcases List.eq_nil_or_concat (lays [] (M.take k)) with e | ⟨A', t, e⟩
        · rw [e] at hl c1
          have hn0 : n = 0 := by rw [← hl]; rfl
          subst hn0
          exact follows_nil W' adl cpl s (by have : (0 : Int) = s.lo := c1; omega)
        · rw [List.concat_eq_append] at e
          rw [e] at hl hown c1
          have hl2 : A'.length + 1 = n := by rw [← hl]; simp
          have hm := cov_mem c1 t (by simp)
          have hc := cov_last c1
          subst hl2
          exact follows_snoc W' w.heap.size _ A' t s (own_keep hown (fun g hg => k3.block g (own_lt hown hg) (fun h => h))) (by omega) (by omega) (by omega) (by omega)
      have LA : ∀ W, Kp Nu wr W → Calls Tryz.prog 70 #[.slice adl n cpl, .agg #[.int .u64 s.lo, .int .u64 s.hi, .int .u8 s.h]] W fun e w' => ∃ u', e = .returned u' ∧ w'.ownsRow w.heap.size 38 3 u' (lays [] (M.take (k + 1))).length (cells (lays [] (M.take (k + 1)))) ∧ Kp (fun g => w.heap.size ≤ g) W w' := fun W kW => by
        have e : lays [] (M.take (k + 1)) = lay (lays [] (M.take k)) s := by
          rw [List.take_add_one, hs, Option.toList_some, lays_snoc]
        have hown2 : W.ownsRow w.heap.size 38 3 (.slice adl n cpl) (lays [] (M.take k)).length (cells (lays [] (M.take k))) := by
          rw [hl]; exact own_keep hown (fun g hg => kW.block g (own_lt hown hg) (fun h => h))
        rw [e]
        refine (lay_any w.heap.size W _ _ s (by omega) hown2 (Nat.le_trans hsz kW.size)).mono ?_
        rintro e w' ⟨u', rfl, h1, h2⟩
        exact ⟨u', rfl, h1, h2.mono (fun i _ hi => (own_type hown2 hi.symm).1)⟩
      have HK := hide hkp
      have hle2 := lays_le (M.take (k + 1)) []
      have hn9 : (lays [] (M.take (k + 1))).length ≤ 8192 := by simp at hle2; omega
      have HN9 := hide hn9
      clear hI hl hown hc' hs t1 t2 t3 hh hle hle2 hn9 hkM hkp
      have FA1 := FA _ KA
      go_wp2_with fail
      refine FA1.mono ?_; rintro e w2 ⟨rfl, hk2⟩
      have hb2 := cell3 (new_at wr _ hk2)
      obtain ⟨a0, a1, a2⟩ := hb2
      have LA1 := LA _ (KA.andNu hk2)
      clear FA FA1 LA
      go_wp2_with fail
      refine LA1.mono ?_; rintro e w3 ⟨u', rfl, ho3, hk3⟩
      obtain ⟨ad3, cp3, hu3⟩ := own_slice ho3
      obtain ⟨n3, hn3⟩ : ∃ n3, (lays [] (M.take (k + 1))).length = n3 := ⟨_, rfl⟩
      rw [hn3] at hu3 ho3
      have HO : Hid ((lays [] (M.take (k + 1))).length = n3 ∧ w3.ownsRow w.heap.size 38 3 u' n3 (cells (lays [] (M.take (k + 1)))) ∧ Kp Nu w w3) := by
        refine ⟨hn3, ho3, ?_⟩
        exact Kp.of_below (((HK.out.andNu (KA.andNu hk2)).toBelow).trans (hk3.below _ (by have := KA.size; have := hk2.size; omega) (fun j hj => hj)))
      have hn10 : n3 ≤ 8192 := by rw [← hn3]; exact HN9.out
      subst hu3
      clear LA1 ho3 hn3 hk3 hk2 KA
      go_wp2
      go_roundw
      case rel => exact ⟨k + 1, n3, ad3, cp3, by omega, by go_num, rfl, hn10, HO⟩
      case measure => simp [intOf]; omega
    · have hge : ¬ (k : Int) < (N : Int) := by omega
      obtain rfl : k = N := by omega
      obtain ⟨hl, hown, hkp⟩ := hI.out
      rw [List.take_of_length_le (by rw [HN.out]; omega)] at hl hown
      have hfit := HF.out
      have hpos := HP.out
      rw [hl] at hfit hpos
      rcases List.eq_nil_or_concat (lays [] M) with e | ⟨A', t, e⟩
      · rw [e] at hl; simp at hl; omega
      rw [List.concat_eq_append] at e
      have hlt2 : (A' ++ [t])[A'.length]? = some t := by simp
      have hown2 : wr.ownsRow w.heap.size 38 3 (.slice adl n cpl) (A' ++ [t]).length (cells (A' ++ [t])) := by
        rw [← e, hl]; exact hown
      obtain ⟨r3, cap3, hu3, x0, x1, x2⟩ := row_at hown2 hlt2
      obtain ⟨q, hq⟩ : ∃ q, A'.length = q := ⟨_, rfl⟩
      rw [hq] at x1
      have hl3 : n = q + 1 := by rw [← hl, e, ← hq]; simp
      simp only [Value.slice.injEq] at hu3
      obtain ⟨rfl, hy1, hy2⟩ := hu3
      clear hy1 hy2
      have hc1 := HG.out.tab.cov
      rw [e] at hc1
      have hc2 := cov_last hc1
      have ht : t.hi = 18446744073709551615 := by omega
      rw [ht] at x1
      have HT : Hid (Tb w.heap.size (wr.alloc (.cells #[.int .i64 lim, .slice (some ⟨r3, 0, none⟩) n cpl] 133)) wr.heap.size lim (.slice (some ⟨r3, 0, none⟩) n cpl) (lays [] M) ∧ Kp Nu w (wr.alloc (.cells #[.int .i64 lim, .slice (some ⟨r3, 0, none⟩) n cpl] 133))) := by
        refine ⟨⟨heap_alloc_new wr _, hkp.size, ?_, HG.out.tab, HF.out, l2⟩, hkp.andAlloc _⟩
        rw [hl]
        exact hown.alloc _
      subst hl3
      clear hI hl hown hown2 x0 x2 hlt2 hc1 hc2 ht e hq
      have hq0 : (((q : Int) + 1) == 0) = false := by simp; omega
      have hq8 : (q : Int) + 1 ≤ 8192 := by omega
      have hq9 : (0 : Int) ≤ (q : Int) := by omega
      have hfl : ¬ (q : Int) + 1 > lim := by omega
      have hfd : decide (lim < (q : Int) + 1) = false := decide_eq_false (by omega)
      clear hpos hfit
      go_wp2
      go_ret3
      exact ⟨_, rfl, ⟨_, HT.out.1⟩, HT.out.2⟩

set_option maxRecDepth 100000 in
set_option maxHeartbeats 1000000 in
theorem Load_good (w : World) (u : Value) (M : List Sg) (hrd : Rs w u M) (hg : Good M) (hM : M.length ≤ 8192) (lim : Int) (l1 : 1 ≤ lim) (l2 : lim ≤ 8192) (hfit : ((lays [] M).length : Int) ≤ lim) :
    Calls Tryz.prog 30 #[u, .int .i64 lim] w fun e w' => ∃ b v, e = .returned (.tuple #[.pointer (some ⟨b, 0, none⟩), .int .i64 0]) ∧ Tb w.heap.size w' b lim v (lays [] M) ∧ Kp Nu w w' := by
  have LO := load_good w u M hrd hg hM lim l1 l2 hfit
  obtain ⟨r, off, cap, hu, hc⟩ := hrd
  subst hu
  clear hc hg
  go_enter Tryz.func30, Tryz.ntmps30
  go_wp2_with fail
  refine LO.mono ?_; rintro e w2 ⟨b, v, rfl, hT, hk⟩
  have HT := hide (And.intro hT hk)
  clear LO hT hk
  go_wp2
  go_ret2
  first | exact ⟨b, v, rfl, HT.out⟩ | exact ⟨b, rfl, ⟨v, HT.out.1⟩, HT.out.2⟩
end Go.Proofs.YtbifmcadllilhaaGreat.Rg
namespace Go.Proofs.YtbifmcadllilhaaGreat.Rg
open Go.ChangeShapes Go.WideShapes Go.ChangeAt Go.RowKit
open Go.Deep
set_option linter.unusedVariables false

theorem ownK : ownKnob Tryz.prog.godebug = none := by kernel_rfl
theorem cellsOf3 : Tryz.prog.cellsOf 3 = 1 := by kernel_rfl
theorem cellsOf22 : Tryz.prog.cellsOf 36 = 1 := by kernel_rfl
theorem cellsOf29 : Tryz.prog.cellsOf 24 = 1 := by kernel_rfl
theorem cellsOf40 : Tryz.prog.cellsOf 38 = 3 := by kernel_rfl
theorem bytesOf40 : Tryz.prog.bytesOf 38 = 24 := by kernel_rfl

/-- a step -/
structure Sp where
  kind : Int
  lo : Int
  hi : Int
  h : Int
structure SpAt (W : World) (b o : Nat) (s : Sp) : Prop where
  c0 : W.cell? ⟨b, o, none⟩ = some (.int .i64 s.kind)
  c1 : W.cell? ⟨b, o + 1, none⟩ = some (.int .u64 s.lo)
  c2 : W.cell? ⟨b, o + 2, none⟩ = some (.int .u64 s.hi)
  c3 : W.cell? ⟨b, o + 3, none⟩ = some (.int .u8 s.h)
  fit : 0 ≤ s.lo ∧ s.lo < 18446744073709551616 ∧ 0 ≤ s.hi ∧ s.hi < 18446744073709551616 ∧ 0 ≤ s.h ∧ s.h < 256
/-- a script that came in -/
def Scr (W : World) (v : Value) (S : List Sp) : Prop :=
  ((∃ ad cap, v = .slice ad 0 cap) ∧ S = []) ∨ ∃ b off cap, v = .slice (some ⟨b, off, none⟩) S.length cap ∧ ∀ i s, S[i]? = some s → SpAt W b (off + i * 4) s
structure SgAt (W : World) (b o : Nat) (s : Sg) : Prop where
  c0 : W.cell? ⟨b, o, none⟩ = some (.int .u64 s.lo)
  c1 : W.cell? ⟨b, o + 1, none⟩ = some (.int .u64 s.hi)
  c2 : W.cell? ⟨b, o + 2, none⟩ = some (.int .u8 s.h)
  fit : 0 ≤ s.lo ∧ s.lo < 18446744073709551616 ∧ 0 ≤ s.hi ∧ s.hi < 18446744073709551616 ∧ 0 ≤ s.h ∧ s.h < 256
/-- segments that came in -/
def Sgs (W : World) (v : Value) (S : List Sg) : Prop :=
  ((∃ ad cap, v = .slice ad 0 cap) ∧ S = []) ∨ ∃ b off cap, v = .slice (some ⟨b, off, none⟩) S.length cap ∧ ∀ i s, S[i]? = some s → SgAt W b (off + i * 3) s
theorem cell_nu {w w' : World} {a : Addr} {u : Value} (h : w.cell? a = some u) (k : Kp Nu w w') : w'.cell? a = some u :=
  (World.cell?_of_block (k.block _ (World.block_lt_of_cell? w _ h) (fun h => h))).trans h
theorem SpAt.nu {w w' : World} {s : Sp} {b o : Nat} (h : SpAt w b o s) (k : Kp Nu w w') : SpAt w' b o s := ⟨cell_nu h.c0 k, cell_nu h.c1 k, cell_nu h.c2 k, cell_nu h.c3 k, h.fit⟩
theorem Scr.slice {w : World} {v : Value} {S : List Sp} (h : Scr w v S) : ∃ ad cap, v = .slice ad S.length cap := by
  rcases h with ⟨⟨ad, cap, rfl⟩, rfl⟩ | ⟨b, off, cap, rfl, _⟩
  · exact ⟨ad, cap, rfl⟩
  · exact ⟨_, cap, rfl⟩
theorem Sgs.slice {w : World} {v : Value} {S : List Sg} (h : Sgs w v S) : ∃ ad cap, v = .slice ad S.length cap := by
  rcases h with ⟨⟨ad, cap, rfl⟩, rfl⟩ | ⟨b, off, cap, rfl, _⟩
  · exact ⟨ad, cap, rfl⟩
  · exact ⟨_, cap, rfl⟩
theorem spot_none {w : World} {a : Addr} {u : Value} (h : w.cell? a = some u) : a.spot = none := by
  unfold World.cell? at h
  split at h
  · split at h
    · cases h
    · rename_i _ hs; simpa using hs
  · cases h

section
variable {H : Type} {enc : TypeId × Value → H} {W : World}
theorem sized_at {ts : List TypeId} {ds : List (DataW H)} (h : (DataW.weightsEach Tryz.prog ts ds).all (· ≤ reachBytes) = true) (j : Nat) {t : TypeId} {d : DataW H} (ht : ts[j]? = some t) (hd : ds[j]? = some d) : ∀ n ∈ d.weights Tryz.prog t, n ≤ 140737488351232 := by
  intro n hn
  have := List.all_eq_true.1 h n (DataW.weights_mem_each ht hd n hn)
  exact of_decide_eq_true this
theorem get4 {α : Type} {l : List α} (h : l.length = 4) : ∃ a b c d, l = [a, b, c, d] := by
  match l, h with
  | [a, b, c, d], _ => exact ⟨a, b, c, d, rfl⟩

theorem get3 {α : Type} {l : List α} (h : l.length = 3) : ∃ a b c, l = [a, b, c] := by
  match l, h with
  | [a, b, c], _ => exact ⟨a, b, c, rfl⟩

theorem open_seg1 {fuel : Nat} {cs0 : List Value} {x : DataW H × List MemPlace} (h : DataW.trod enc Tryz.prog W 0 (fun _ => true) true fuel 38 cs0 = some x) :
    ∃ s : Sg, cs0 = [.int .u64 s.lo, .int .u64 s.hi, .int .u8 s.h] ∧ 0 ≤ s.lo ∧ s.lo < 18446744073709551616 ∧ 0 ≤ s.hi ∧ s.hi < 18446744073709551616 ∧ 0 ≤ s.h ∧ s.h < 256 := by
  obtain ⟨xs, n, rfl, rfl, hl, hxl, hf⟩ := DataW.trod_struct Tryz.underlying38 h
  rw [cellsOf40] at hl
  obtain ⟨y0, y1, y2, rfl⟩ := get3 (show xs.length = 3 from hxl)
  obtain ⟨v0, v1, v2, rfl⟩ := get3 hl
  have f0 : DataW.trod enc Tryz.prog W 0 (fun _ => true) true n 24 [v0] = some y0 := by
    have g : DataW.trod enc Tryz.prog W 0 (fun _ => true) true n 24 (([v0, v1, v2].drop 0).take (Tryz.prog.cellsOf 24)) = [y0, y1, y2][0]? := hf 0 _ rfl
    rw [cellsOf29] at g; exact g
  have f1 : DataW.trod enc Tryz.prog W 0 (fun _ => true) true n 24 [v1] = some y1 := by
    have g : DataW.trod enc Tryz.prog W 0 (fun _ => true) true n 24 (([v0, v1, v2].drop 1).take (Tryz.prog.cellsOf 24)) = [y0, y1, y2][1]? := hf 1 _ rfl
    rw [cellsOf29] at g; exact g
  have f2 : DataW.trod enc Tryz.prog W 0 (fun _ => true) true n 36 [v2] = some y2 := by
    have g : DataW.trod enc Tryz.prog W 0 (fun _ => true) true n 36 (([v0, v1, v2].drop 2).take (Tryz.prog.cellsOf 36)) = [y0, y1, y2][2]? := hf 2 _ rfl
    rw [cellsOf22] at g; exact g
  obtain ⟨k0, e0, _, b0⟩ := DataW.trod_int Tryz.underlying24 f0
  obtain rfl : v0 = .int .u64 k0 := by simpa using e0
  obtain ⟨k1, e1, _, b1⟩ := DataW.trod_int Tryz.underlying24 f1
  obtain rfl : v1 = .int .u64 k1 := by simpa using e1
  obtain ⟨k2, e2, _, b2⟩ := DataW.trod_int Tryz.underlying36 f2
  obtain rfl : v2 = .int .u8 k2 := by simpa using e2
  simp [Lit.wf, IntKind.min, IntKind.max, IntKind.signed, IntKind.bits] at b0
  simp [Lit.wf, IntKind.min, IntKind.max, IntKind.signed, IntKind.bits] at b1
  simp [Lit.wf, IntKind.min, IntKind.max, IntKind.signed, IntKind.bits] at b2
  exact ⟨⟨k0, k1, k2⟩, rfl, by dsimp only; omega, by dsimp only; omega, by dsimp only; omega, by dsimp only; omega, by dsimp only; omega, by dsimp only; omega⟩

theorem open_seg {v0 : Value} {d0 : DataW H} {p0 : List MemPlace} (h : DataW.Trod enc Tryz.prog W 0 (fun _ => true) true 22 v0 d0 p0) (hone : ∃ a len cap, v0 = .slice a len cap) (hw : ∀ n ∈ d0.weights Tryz.prog 22, n ≤ 140737488351232) : ∃ S, Sgs W v0 S ∧ (S.length : Int) ≤ 5864062014634 := by
  obtain ⟨fuel, hf⟩ := h
  obtain ⟨a0, len0, cap0, rfl⟩ := hone
  have hf' : DataW.trod enc Tryz.prog W 0 (fun _ => true) true fuel 22 [.slice a0 len0 cap0] = some (d0, p0) := by simpa [Value.cells] using hf
  rcases open_slice Tryz.underlying22 hf' with ⟨hcs, hx⟩ | ⟨a, len, cap, m, n, D, Pl, hcs, _, hl, hm, hmm, hx, hel⟩
  · simp only [List.cons.injEq, and_true] at hcs
    rw [hcs]
    exact ⟨[], .inl ⟨⟨_, _, rfl⟩, rfl⟩, by simp⟩
  · simp only [List.cons.injEq, and_true] at hcs
    rw [hcs]
    simp only [Prod.mk.injEq] at hx
    have hml : m = cap := by rw [hmm]; simp
    have each : ∀ i, i < len → ∃ s : Sg, (∀ j, j < 3 → W.cell? (a.add (i * 3 + j)) = [Value.int .u64 s.lo, .int .u64 s.hi, .int .u8 s.h][j]?) ∧ (0 ≤ s.lo ∧ s.lo < 18446744073709551616 ∧ 0 ≤ s.hi ∧ s.hi < 18446744073709551616 ∧ 0 ≤ s.h ∧ s.h < 256) := by
      intro i hi
      obtain ⟨cs', hc, ht⟩ := hel i (by omega)
      rw [cellsOf40] at hc
      obtain ⟨s, rfl, hfit⟩ := open_seg1 ht
      refine ⟨s, fun j hj => ?_, hfit⟩
      obtain ⟨_, _, hcell⟩ := World.cells?_some hc
      have := hcell j hj
      rw [Deep.add_add] at this
      exact this
    haveI : Inhabited Sg := ⟨⟨0, 0, 0⟩⟩
    obtain ⟨f, hf2⟩ := choose_lt (α := Sg) each
    by_cases h0 : len = 0
    · subst h0
      exact ⟨[], .inl ⟨⟨_, _, rfl⟩, rfl⟩, by simp⟩
    · have hsp : a.spot = none := by
        have h1 := (hf2 0 (by omega)).1 0 (by omega)
        have e : a.add (0 * 3 + 0) = a := by simp [Addr.add]
        rw [e] at h1
        simp only [List.getElem?_cons_zero] at h1
        exact spot_none h1
      obtain ⟨ab, ao, sp⟩ := a
      simp only at hsp
      subst hsp
      have hlb : (len : Int) ≤ 5864062014634 := by
        have := hw ((((List.range len).map D).length + ((List.range (m - len)).map fun j => D (len + j)).length) * Tryz.prog.bytesOf 38) (by rw [hx.1]; simp [DataW.weights, Tryz.underlying22])
        rw [bytesOf40] at this
        simp only [List.length_map, List.length_range] at this
        omega
      refine ⟨(List.range len).map f, .inr ⟨ab, ao, cap, by simp, fun i s hs => ?_⟩, by simpa using hlb⟩
      have hi : i < len := by
        have := (List.getElem?_eq_some_iff.1 hs).1
        simpa using this
      have hs' : f i = s := by simpa [hi] using hs
      subst hs'
      obtain ⟨hc, hfit⟩ := hf2 i hi
      have c := fun j hj => hc j hj
      simp only [Addr.add_lit] at c
      refine ⟨by simpa using c 0 (by omega), ?_, ?_, hfit⟩
      · have := c 1 (by omega); rw [← Nat.add_assoc] at this; simpa using this
      · have := c 2 (by omega); rw [← Nat.add_assoc] at this; simpa using this
end
end Go.Proofs.YtbifmcadllilhaaGreat.Rg
