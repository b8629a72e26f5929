import Derived.Test.YtffcnonhhfhlhaaDoorRgL
namespace Go.Proofs.YtffcnonhhfhlhaaDoor.Rg
open Go.RowKit Go.Shelf Go.Sort
open Go.Proofs.YtffcnonhhfhlhaaDoor.It
attribute [local go_sem] Oper.semAt_some
set_option linter.unusedVariables false

/-- a piece of code that neither leaves nor panics -/
def Calm (Q : Exit → Act → World → Prop) : Exit → Act → World → Prop
  | .normal, a, w => Q .normal a w
  | _, _, _ => False
theorem wp_calm {F : Fence} {n : Nat} {P : Program} {c : Code} {Q : Exit → Act → World → Prop} {a : Act} {w : World} (h : c.wpIn F n P (Calm Q) a w) : c.wpIn F n P Q a w :=
  wpIn_mono h (fun e a w h => by cases e <;> first | exact h | exact h.elim)

/-- what a step that turns cells alone, none of them of K, keeps -/
theorem kf_cells {B : Nat} {S : Nat → Prop} {V V' : World} (h : Kp S V V') (hS : ∀ k, S k → ∃ c t m, V.heap[k]? = some (.cells c t m)) : KeepsFrom B V V' :=
  ⟨h.size, fun k o _ hk ho => (h.block k (blk_lt hk) (fun hs => by
    obtain ⟨c, t, m, e⟩ := hS k hs
    rw [hk] at e; cases e; cases ho)).trans hk⟩
theorem kc_cells {K : Nat → TypeId → Prop} {S : Nat → Prop} {V V' : World} (h : Kp S V V') (hS : ∀ k c t m, S k → V.heap[k]? = some (.cells c t m) → ¬ K k t) : Kc K V V' := fun k c t m hK e =>
  (h.block k (blk_lt e) (fun hs => hS k c t m hs e hK)).trans e
theorem own_type {w : World} {B n g : Nat} {u : Value} {xs : List Value} (h : w.ownsRow B 26 3 u n xs) (hg : u.ownBlock = some g) : B ≤ g ∧ ∃ c, w.heap[g]? = some (.cells c 26 (0, 0)) := by
  rcases h.2 with ⟨rfl, h0⟩ | ⟨g', cap, cur, rfl, hb', hg', _⟩
  · cases hg
  · simp [Value.ownBlock] at hg; subst hg; exact ⟨hb', cur, hg'⟩

/-- the loop over Within that lays: between two rounds -/
structure Lp (w V : World) (BX Bl Bh : Nat) (lo hi : Int) (C : List Sg) : Prop where
  box : ∃ u, V.heap[BX]? = some (.cells #[u] 22 (0, 0)) ∧ V.ownsRow w.heap.size 26 3 u C.length (cells C)
  bl : V.heap[Bl]? = some (.cells #[.int .u64 lo] 23 (0, 0))
  bh : V.heap[Bh]? = some (.cells #[.int .u64 hi] 23 (0, 0))
theorem Lp.own {w : World} {BX Bl Bh : Nat} {lo hi : Int} {β : Type} (B : Nat) (f : β → List Sg) : OwnFrom B (fun p V => Lp w V BX Bl Bh lo hi (f p)) := fun p X Z row hs hg hr => by
  obtain ⟨⟨u, h1, h2⟩, h3, h4⟩ := hs
  refine ⟨⟨u, own_cells (β := Unit) B _ _ _ _ () X Z row h1 hg hr, own_keep h2 (fun g e => hg.block g (own_lt h2 e) (fun e2 => ?_))⟩, own_cells (β := Unit) B _ _ _ _ () X Z row h3 hg hr, own_cells (β := Unit) B _ _ _ _ () X Z row h4 hg hr⟩
  obtain ⟨_, o, ho, hc⟩ := hr g e2.symm
  obtain ⟨_, c, e3⟩ := own_type h2 e
  rw [e3] at ho; cases ho; cases hc
theorem Lp.nu {w V V' : World} {BX Bl Bh : Nat} {lo hi : Int} {C : List Sg} (h : Lp w V BX Bl Bh lo hi C) (k : Kp Nu V V') : Lp w V' BX Bl Bh lo hi C := by
  obtain ⟨⟨u, h1, h2⟩, h3, h4⟩ := h
  exact ⟨⟨u, (k.block _ (blk_lt h1) (fun h => h)).trans h1, own_keep h2 (fun g e => k.block g (own_lt h2 e) (fun h => h))⟩, (k.block _ (blk_lt h3) (fun h => h)).trans h3, (k.block _ (blk_lt h4) (fun h => h)).trans h4⟩
/-- one round: what lay leaves, and the box set -/
theorem Lp.step {w V V1 : World} {BX Bl Bh r : Nat} {lo hi : Int} {C C' : List Sg} {u u' : Value} (h3 : V.heap[Bl]? = some (.cells #[.int .u64 lo] 23 (0, 0))) (h4 : V.heap[Bh]? = some (.cells #[.int .u64 hi] 23 (0, 0))) (h1 : V.heap[BX]? = some (.cells #[u] 22 (0, 0))) (h2 : V.ownsRow w.heap.size 26 3 u C.length (cells C)) (hr : r < w.heap.size) (hBX : w.heap.size ≤ BX)
    (k : Kp (fun k => some k = u.ownBlock) V V1) (ho : V1.ownsRow w.heap.size 26 3 u' C'.length (cells C')) (hB : Below w.heap.size w V) :
    Lp w (V1.setCell ⟨BX, 0, none⟩ u') BX Bl Bh lo hi C' ∧ KeepsFrom w.heap.size V (V1.setCell ⟨BX, 0, none⟩ u') ∧ Kc (KW Bl Bh r) V (V1.setCell ⟨BX, 0, none⟩ u') ∧ Below w.heap.size w (V1.setCell ⟨BX, 0, none⟩ u') := by
  have hty : ∀ g, some g = u.ownBlock → w.heap.size ≤ g ∧ ∃ c, V.heap[g]? = some (.cells c 26 (0, 0)) := fun g e => own_type h2 e.symm
  have nu : ∀ (g : Nat) (c : Array Value) (t : TypeId) (m : Nat × Nat), V.heap[g]? = some (Obj.cells c t m) → t ≠ 26 → V1.heap[g]? = some (Obj.cells c t m) := fun g c t m e ht => (k.block g (blk_lt e) (fun hs => by
    obtain ⟨_, c', e'⟩ := hty g hs
    rw [e] at e'; cases e'; exact ht rfl)).trans e
  have b1 := nu BX _ _ _ h1 (by decide)
  have hne : ∀ (g : Nat) (c : Array Value) (t : TypeId) (m : Nat × Nat), V1.heap[g]? = some (Obj.cells c t m) → t ≠ 22 → g ≠ BX := fun g c t m e ht e2 => by
    subst e2; rw [b1] at e; cases e; exact ht rfl
  have st : ∀ (g : Nat) (c : Array Value) (t : TypeId) (m : Nat × Nat), V1.heap[g]? = some (Obj.cells c t m) → t ≠ 22 → (V1.setCell ⟨BX, 0, none⟩ u').heap[g]? = some (Obj.cells c t m) := fun g c t m e ht => (Below.heap_setCell V1 ⟨BX, 0, none⟩ u' g (hne g c t m e ht)).trans e
  have kS : Kp (fun k => some k = u.ownBlock ∨ k = BX) V (V1.setCell ⟨BX, 0, none⟩ u') := (k.mono (fun i _ h => .inl h)).andSet _ _ (.inr (.inr rfl))
  have hS : ∀ j, (some j = u.ownBlock ∨ j = BX) → ∃ (c : Array Value) (t : TypeId), V.heap[j]? = some (Obj.cells c t (0, 0)) ∧ (t = 26 ∧ w.heap.size ≤ j ∨ t = 22 ∧ j = BX) := fun j hj => by
    rcases hj with hj | rfl
    · obtain ⟨h5, c, e⟩ := hty j hj
      exact ⟨c, 26, e, .inl ⟨rfl, h5⟩⟩
    · exact ⟨_, 22, h1, .inr ⟨rfl, rfl⟩⟩
  refine ⟨⟨⟨u', by rw [set3 b1 0 u']; rfl, own_keep ho (fun g e => ?_)⟩, st _ _ _ _ (nu _ _ _ _ h3 (by decide)) (by decide), st _ _ _ _ (nu _ _ _ _ h4 (by decide)) (by decide)⟩, kf_cells kS (fun j hj => ?_), kc_cells kS (fun j c t m hj e hK => ?_), ?_⟩
  · obtain ⟨_, c, e3⟩ := own_type ho e
    exact Below.heap_setCell V1 ⟨BX, 0, none⟩ u' g (hne g _ _ _ e3 (by decide))
  · obtain ⟨c, t, e, _⟩ := hS j hj
    exact ⟨c, t, _, e⟩
  · obtain ⟨c', t', e', h5⟩ := hS j hj
    rw [e] at e'; cases e'
    rcases hK with rfl | rfl | rfl | rfl
    · rw [h3] at e; cases e; rcases h5 with ⟨h, _⟩ | ⟨h, _⟩ <;> cases h
    · rw [h4] at e; cases e; rcases h5 with ⟨h, _⟩ | ⟨h, _⟩ <;> cases h
    · rcases h5 with ⟨_, h⟩ | ⟨_, h⟩ <;> omega
    · rcases h5 with ⟨h, _⟩ | ⟨h, _⟩ <;> cases h
  · refine hB.trans (kS.below w.heap.size hB.size (fun j hj => ?_))
    rcases hj with hj | rfl
    · exact (hty j hj).1
    · exact hBX

theorem low_len (L : List Sg) (lo : Int) : (lowP L lo).length ≤ L.length := by
  unfold lowP
  split
  · exact tk_len L _ _
  · simp

theorem mid_step {w V V1 : World} {BX : Nat} {n : Nat} {X : List Value} {C' : List Sg} {u u' : Value} (h1 : V.heap[BX]? = some (.cells #[u] 22 (0, 0))) (h2 : V.ownsRow w.heap.size 26 3 u n X) (hBX : w.heap.size ≤ BX)
    (k : Kp (fun k => some k = u.ownBlock) V V1) (ho : V1.ownsRow w.heap.size 26 3 u' C'.length (cells C')) (hB : Below w.heap.size w V) :
    V1.heap[BX]? = some (.cells #[u] 22 (0, 0)) ∧ (V1.setCell ⟨BX, 0, none⟩ u').heap[BX]? = some (.cells #[u'] 22 (0, 0)) ∧ (V1.setCell ⟨BX, 0, none⟩ u').ownsRow w.heap.size 26 3 u' C'.length (cells C') ∧ KeepsFrom w.heap.size V (V1.setCell ⟨BX, 0, none⟩ u') ∧ Below w.heap.size w (V1.setCell ⟨BX, 0, none⟩ u') := by
  have hty : ∀ g, some g = u.ownBlock → w.heap.size ≤ g ∧ ∃ c, V.heap[g]? = some (.cells c 26 (0, 0)) := fun g e => own_type h2 e.symm
  have b1 : V1.heap[BX]? = some (.cells #[u] 22 (0, 0)) := (k.block _ (blk_lt h1) (fun hs => by
    obtain ⟨_, c, e3⟩ := hty _ hs
    rw [h1] at e3; cases e3)).trans h1
  have kS : Kp (fun k => some k = u.ownBlock ∨ k = BX) V (V1.setCell ⟨BX, 0, none⟩ u') := (k.mono (fun i _ h => .inl h)).andSet _ _ (.inr (.inr rfl))
  refine ⟨b1, by rw [set3 b1 0 u']; rfl, own_keep ho (fun g e => ?_), kf_cells kS (fun j hj => ?_), hB.trans (kS.below w.heap.size hB.size (fun j hj => ?_))⟩
  · obtain ⟨_, c, e3⟩ := own_type ho e
    refine Below.heap_setCell V1 ⟨BX, 0, none⟩ u' g (fun e4 => ?_)
    have e5 : g = BX := e4
    subst e5
    rw [b1] at e3; cases e3
  · rcases hj with hj | rfl
    · obtain ⟨_, c, e⟩ := hty j hj
      exact ⟨c, _, _, e⟩
    · exact ⟨_, _, _, h1⟩
  · rcases hj with hj | rfl
    · exact (hty j hj).1
    · exact hBX

theorem fin_tb {B b : Nat} {w V : World} {lim : Int} {v u : Value} {L A : List Sg} (h : Tb B w b lim v L) (hB : Below w.heap.size w V) (ho : V.ownsRow w.heap.size 26 3 u A.length (cells A)) (hBw : B ≤ w.heap.size) (ht : Tab A) (hl : (A.length : Int) ≤ lim) :
    Tb B (V.setCell ⟨b, 1, none⟩ u) b lim u A ∧ Kp (fun k => k = b) w (V.setCell ⟨b, 1, none⟩ u) := by
  have hb := (hB.block b (blk_lt h.blk)).trans h.blk
  refine ⟨⟨by rw [set3 hb 1 u]; rfl, h.low, own_base (own_keep ho (fun g e => ?_)) hBw, ht, hl, h.lim1⟩, ((Kp.of_below hB).mono (fun i _ h => h.elim)).andSet _ _ (.inr rfl)⟩
  obtain ⟨_, c, e3⟩ := own_type ho e
  refine Below.heap_setCell V ⟨b, 1, none⟩ u g (fun e4 => ?_)
  have e5 : g = b := e4
  subst e5
  rw [hb] at e3; cases e3
theorem Tb.put {B b : Nat} {X : World} {lim : Int} {v : Value} {L : List Sg} (h : Tb B X b lim v L) {D : Nat} {o : Obj} (o' : Obj) (hD : X.heap[D]? = some o) (ho : o.isCells = false) : Tb B (X.putObj D o') b lim v L :=
  ⟨(World.putObj_heap_other (fun e => by have e2 : b = D := e; subst e2; rw [h.blk] at hD; cases hD; cases ho)).trans h.blk, h.low, own_keep h.own (fun g e => by
    obtain ⟨_, c, e3⟩ := own_type h.own e
    exact World.putObj_heap_other (fun e4 => by subst e4; rw [e3] at hD; cases hD; cases ho)), h.tab, h.len, h.lim1⟩
theorem Kp.put {S : Nat → Prop} {w X : World} (h : Kp S w X) {D : Nat} (o' : Obj) (hD : w.heap.size ≤ D) : Kp S w (X.putObj D o') :=
  ⟨h.os, h.tape, h.output, by have := h.size; simp; omega, fun k hk hs => (World.putObj_heap_other (by omega)).trans (h.block k hk hs)⟩
end Go.Proofs.YtffcnonhhfhlhaaDoor.Rg
