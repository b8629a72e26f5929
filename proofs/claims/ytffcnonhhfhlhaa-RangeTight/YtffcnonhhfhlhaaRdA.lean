import Derived.Test.YtffcnonhhfhlhaaRdP
import Derived.WalkMore
namespace Go.Proofs.Ytffcnonhhfhlhaa.Rg
open Go.RowKit Go.Shelf Go.Sort
open Go.Proofs.Ytffcnonhhfhlhaa.It
attribute [local go_sem] Oper.semAt_some
set_option linter.unusedVariables false

def cellsK (c : Cg) : List Value := [.int .u64 c.lo, .int .u64 c.hi, .int .u8 c.f, .int .u8 c.t]
def cellsC (C : List Cg) : List Value := C.flatMap cellsK
theorem cellsC_append (A B : List Cg) : cellsC (A ++ B) = cellsC A ++ cellsC B := by simp [cellsC]
theorem cellsC_length : ∀ L : List Cg, (cellsC L).length = L.length * 4
  | [] => rfl
  | s :: L => by
    have := cellsC_length L
    simp only [cellsC, List.flatMap_cons, List.length_append] at this ⊢
    simp [cellsK, this]; omega
theorem info55 : (Try.prog.info? 55).map (fun i => (i.zero, i.size, i.bytes)) = some (some (.agg #[.int .u64 0, .int .u64 0, .int .u8 0, .int .u8 0]), 4, 24) := by kernel_rfl
theorem own_type55 {w : World} {B n g : Nat} {u : Value} {xs : List Value} (h : w.ownsRow B 55 4 u n xs) (hg : u.ownBlock = some g) : B ≤ g ∧ ∃ c, w.heap[g]? = some (.cells c 55 (0, 0)) := by
  rcases h.2 with ⟨rfl, h0⟩ | ⟨g', cap, cur, rfl, hb', hg', _⟩
  · cases hg
  · simp [Value.ownBlock] at hg; subst hg; exact ⟨hb', cur, hg'⟩
theorem cell_four_new (w : World) (x y z v : Value) (t : TypeId) : ∀ j u, [x, y, z, v][j]? = some u → (w.alloc (.cells #[x, y, z, v] t)).cell? ((⟨w.heap.size, 0, none⟩ : Addr).add j) = some u := by
  intro j u hj
  have h := cell4 (heap_alloc_new w (.cells #[x, y, z, v] t))
  match j, hj with
  | 0, hj => simp at hj; subst hj; exact h.1
  | 1, hj => simp at hj; subst hj; exact h.2.1
  | 2, hj => simp at hj; subst hj; exact h.2.2.1
  | 3, hj => simp at hj; subst hj; exact h.2.2.2

/-- the loop of Diff: its place, what it has told, and the other table's box -/
structure Dm (w V : World) (BP BT B3 b2 : Nat) (p : Nat) (C : List Cg) : Prop where
  pl : V.heap[BP]? = some (.cells #[.int .i64 (p : Int)] 3 (0, 0))
  to : ∃ u, V.heap[BT]? = some (.cells #[u] 51 (0, 0)) ∧ V.ownsRow w.heap.size 55 4 u C.length (cellsC C)
  bx : V.heap[B3]? = some (.cells #[.pointer (some ⟨b2, 0, none⟩)] 24 (0, 0))
theorem Dm.own {w : World} {BP BT B3 b2 : Nat} {β : Type} (B : Nat) (f : β → Nat) (g : β → List Cg) : OwnFrom B (fun s V => Dm w V BP BT B3 b2 (f s) (g s)) := fun s X Z row hs hg hr => by
  obtain ⟨h1, ⟨u, h2, h3⟩, h4⟩ := hs
  refine ⟨own_cells (β := Unit) B _ _ _ _ () X Z row h1 hg hr, ⟨u, own_cells (β := Unit) B _ _ _ _ () X Z row h2 hg hr, own_keep h3 (fun k e => hg.block k (own_lt h3 e) (fun e2 => ?_))⟩, own_cells (β := Unit) B _ _ _ _ () X Z row h4 hg hr⟩
  obtain ⟨_, o, ho, hc⟩ := hr k e2.symm
  obtain ⟨_, c, e3⟩ := own_type55 h3 e
  rw [e3] at ho; cases ho; cases hc
theorem Dm.nu {w V V' : World} {BP BT B3 b2 p : Nat} {C : List Cg} (h : Dm w V BP BT B3 b2 p C) (k : Kp Nu V V') : Dm w V' BP BT B3 b2 p C := by
  obtain ⟨h1, ⟨u, h2, h3⟩, h4⟩ := h
  exact ⟨(k.block _ (blk_lt h1) (fun h => h)).trans h1, ⟨u, (k.block _ (blk_lt h2) (fun h => h)).trans h2, own_keep h3 (fun g e => k.block g (own_lt h3 e) (fun h => h))⟩, (k.block _ (blk_lt h4) (fun h => h)).trans h4⟩
/-- the place goes on -/
theorem Dm.next {w V : World} {BP BT B3 b2 p : Nat} {C : List Cg} (h : Dm w V BP BT B3 b2 p C) : Dm w (V.setCell ⟨BP, 0, none⟩ (.int .i64 ((p + 1 : Nat) : Int))) BP BT B3 b2 (p + 1) C ∧ Kp (fun k => k = BP) V (V.setCell ⟨BP, 0, none⟩ (.int .i64 ((p + 1 : Nat) : Int))) := by
  obtain ⟨h1, ⟨u, h2, h3⟩, h4⟩ := h
  have ne : ∀ {g : Nat} {c : Array Value} {t : TypeId}, V.heap[g]? = some (.cells c t (0, 0)) → t ≠ 3 → g ≠ BP := fun hg ht e => by subst e; rw [h1] at hg; cases hg; exact ht rfl
  refine ⟨⟨by rw [set3 h1 0 _]; rfl, ⟨u, (Below.heap_setCell V ⟨BP, 0, none⟩ _ _ (ne h2 (by decide))).trans h2, own_keep h3 (fun g e => ?_)⟩, (Below.heap_setCell V ⟨BP, 0, none⟩ _ _ (ne h4 (by decide))).trans h4⟩, Kp.setCell V ⟨BP, 0, none⟩ _⟩
  obtain ⟨_, c, e3⟩ := own_type55 h3 e
  exact Below.heap_setCell V ⟨BP, 0, none⟩ _ g (ne e3 (by decide))
/-- one more is told -/
theorem Dm.tell {w V V1 : World} {BP BT B3 b2 p : Nat} {C C' : List Cg} {u u' : Value} (h1 : V.heap[BP]? = some (.cells #[.int .i64 (p : Int)] 3 (0, 0))) (h2 : V.heap[BT]? = some (.cells #[u] 51 (0, 0))) (h3 : V.ownsRow w.heap.size 55 4 u C.length (cellsC C)) (h4 : V.heap[B3]? = some (.cells #[.pointer (some ⟨b2, 0, none⟩)] 24 (0, 0)))
    (k : Kp (fun k => some k = u.ownBlock) V V1) (ho : V1.ownsRow w.heap.size 55 4 u' C'.length (cellsC C')) :
    V1.heap[BT]? = some (.cells #[u] 51 (0, 0)) ∧ Dm w (V1.setCell ⟨BT, 0, none⟩ u') BP BT B3 b2 p C' ∧ Kp (fun k => some k = u.ownBlock ∨ k = BT) V (V1.setCell ⟨BT, 0, none⟩ u') := by
  have nu : ∀ {g : Nat} {c : Array Value} {t : TypeId}, V.heap[g]? = some (.cells c t (0, 0)) → t ≠ 55 → V1.heap[g]? = some (.cells c t (0, 0)) := fun {g c t} e ht => (k.block g (blk_lt e) (fun hs => by
    obtain ⟨_, c', e'⟩ := own_type55 h3 hs.symm
    rw [e] at e'; cases e'; exact ht rfl)).trans e
  have b2' := nu h2 (by decide)
  have ne : ∀ {g : Nat} {c : Array Value} {t : TypeId}, V1.heap[g]? = some (.cells c t (0, 0)) → t ≠ 51 → g ≠ BT := fun hg ht e => by subst e; rw [b2'] at hg; cases hg; exact ht rfl
  have st : ∀ {g : Nat} {c : Array Value} {t : TypeId}, V1.heap[g]? = some (.cells c t (0, 0)) → t ≠ 51 → (V1.setCell ⟨BT, 0, none⟩ u').heap[g]? = some (.cells c t (0, 0)) := fun e ht => (Below.heap_setCell V1 ⟨BT, 0, none⟩ u' _ (ne e ht)).trans e
  refine ⟨b2', ⟨st (nu h1 (by decide)) (by decide), ⟨u', by rw [set3 b2' 0 u']; rfl, own_keep ho (fun g e => ?_)⟩, st (nu h4 (by decide)) (by decide)⟩, (k.mono (fun i _ h => .inl h)).andSet _ _ (.inr (.inr rfl))⟩
  obtain ⟨_, c, e3⟩ := own_type55 ho e
  exact Below.heap_setCell V1 ⟨BT, 0, none⟩ u' g (ne e3 (by decide))
/-- what a step of Diff turns: its own two boxes and what it tells -/
structure Df (w V V' : World) (r : Nat) (B0 : Nat) : Prop where
  kf : KeepsFrom B0 V V'
  kc : Kc (fun k _ => k = r) V V'
  be : Below w.heap.size w V'
theorem Df.refl {w V : World} {r B0 : Nat} (h : Below w.heap.size w V) : Df w V V r B0 := ⟨KeepsFrom.refl _ _, Kc.refl _ _, h⟩
theorem Df.step {w V V1 V2 : World} {r B0 : Nat} {S : Nat → Prop} (h : Df w V V1 r B0) (k : Kp S V1 V2) (hS : ∀ j, j < V1.heap.size → S j → w.heap.size ≤ j ∧ ∃ c t, V1.heap[j]? = some (.cells c t (0, 0))) (hr : r < w.heap.size) : Df w V V2 r B0 := by
  refine ⟨h.kf.trans ⟨k.size, fun j o _ hj ho => (k.block j (blk_lt hj) (fun hs => ?_)).trans hj⟩, h.kc.trans (fun j c t m hj e => (k.block j (blk_lt e) (fun hs => ?_)).trans e), h.be.trans ?_⟩
  · obtain ⟨_, c, t, e⟩ := hS j (blk_lt hj) hs
    rw [hj] at e; cases e; cases ho
  · have h1 := (hS j (blk_lt e) hs).1
    have h2 : j = r := hj
    omega
  · refine ⟨k.os, k.tape, k.output, k.size, fun j hj => k.block j (by have := h.be.size; omega) (fun hs => ?_)⟩
    have h1 := (hS j (by have := h.be.size; omega) hs).1
    omega
theorem Df.nu {w V V1 V2 : World} {r B0 : Nat} (h : Df w V V1 r B0) (k : Kp Nu V1 V2) (hr : r < w.heap.size) : Df w V V2 r B0 := h.step k (fun _ _ h => h.elim) hr
end Go.Proofs.Ytffcnonhhfhlhaa.Rg
