import Derived.RangeFuncNested
import Derived.RangeFuncBound
import Derived.RangeFuncCalls
import Derived.RangeFuncLeaves
import Derived.Shelf.Abstract
import Derived.OwnWalkIn
import Derived.TacticsInMore
namespace Go.Proofs.Ytchealdgncgjoaa.It
open Go.RowKit Go.Shelf
set_option linter.unusedVariables false

/-- the cells of the blocks of K (by number and type) are as they were -/
def Kc (K : Nat → TypeId → Prop) (W W' : World) : Prop := ∀ k c t m, K k t → W.heap[k]? = some (.cells c t m) → W'.heap[k]? = some (.cells c t m)
theorem Kc.refl (K : Nat → TypeId → Prop) (W : World) : Kc K W W := fun _ _ _ _ _ h => h
theorem Kc.trans {K : Nat → TypeId → Prop} {A B C : World} (h : Kc K A B) (k : Kc K B C) : Kc K A C := fun i c t m hi e => k i c t m hi (h i c t m hi e)
theorem Kc.mono {K K' : Nat → TypeId → Prop} {A B : World} (h : Kc K A B) (hk : ∀ k t, K' k t → K k t) : Kc K' A B := fun i c t m hi e => h i c t m (hk i t hi) e
theorem Kc.put {K : Nat → TypeId → Prop} (W : World) (l : Nat) (o o' : Obj) (h : W.heap[l]? = some o) (hc : o.isCells = false) : Kc K W (W.putObj l o') := fun k c t m _ e => by
  by_cases hk : l = k
  · subst hk; rw [h] at e; cases e; cases hc
  · exact (World.putObj_heap_other (fun h => hk h.symm)).trans e

/-- a round may be asked at any depth -/
theorem deep {m : Nat} (m' : Nat) {P : Program} {l : Nat} {args : Array Value} {W : World} {R : Ending → World → Prop} (h : YieldAt Fence.wide m P l args W R) : YieldAt Fence.wide m' P l args W R := by
  obtain ⟨fn, tmps, assign, body, hy, hR⟩ := h
  exact ⟨fn, tmps, assign, body, hy, ⟨hR.1, fun c cs _ => hR.2 c cs (fun d h => by cases h)⟩⟩

/-- a sequence that may itself go through another one: the caller's word stands whatever of the sequence's own blocks turns -/
def SeqO {α : Type} (P : Program) (g : Nat) (lb : Array Value) (encs : α → Array Value) (K : Nat → TypeId → Prop) (S Sp : List α → Prop) (N : Nat) (w : World) : Prop :=
  ∀ (n l : Nat) (J Jx : List α → World → Prop) (W : World), Below w.heap.size w W → OwnFrom W.heap.size J → OwnFrom W.heap.size Jx →
    (∀ pre x W1, J pre W1 → pre.length < N → ∀ m, YieldAt Fence.wide m P l (encs x) W1 fun e W' => KeepsFrom W.heap.size W1 W' ∧
      ((e = .returned (.bool true) ∧ J (pre ++ [x]) W' ∧ Kc K W1 W') ∨ (e = .returned (.bool false) ∧ Jx (pre ++ [x]) W'))) →
    J [] W →
    CallsIn Fence.wide n P g (#[.func (.yield l) #[] #[]] ++ lb) W fun e W' => (∃ v, e = .returned v) ∧ ((∃ xs, S xs ∧ J xs W') ∨ (∃ pre, Sp pre ∧ Jx pre W'))

section
variable {P : Program} {α : Type}
theorem SeqO.of_stops {g : Nat} {lb : Array Value} {encs : α → Array Value} {K : Nat → TypeId → Prop} {S Sp : List α → Prop} {N : Nat} {w : World} (h : ∀ n, SeqStopsK Fence.wide n P g lb encs (Kc K) S Sp N w) : SeqO P g lb encs K S Sp N w :=
  fun n l J Jx W hb hJ hJx hY h0 => h n l J Jx W hb (fun s A B row hs hg hr => hJ s A B row hs hg (fun r e => ⟨(hr r e).1, _, (hr r e).2.choose_spec.1, Obj.not_cells_of_walk (hr r e).2.choose_spec.2⟩))
    (fun s A B row hs hg hr => hJx s A B row hs hg (fun r e => ⟨(hr r e).1, _, (hr r e).2.choose_spec.1, Obj.not_cells_of_walk (hr r e).2.choose_spec.2⟩))
    (fun pre x W1 hj hl => by
      obtain ⟨fn, tmps, assign, body, hy, hR⟩ := hY pre x W1 hj hl (n - 1)
      exact ⟨fn, tmps, assign, body, hy, hR.mono fun e W' hh => hh.2⟩) h0

/-- how a loop's record looks -/
abbrev recd (fn : FuncId) (tmps : Array Value) (ps : Array Tmp) (assign body : Code) (B : Nat) (st : LoopState) (pe : Option Code) : Loop := { state := st, pending := pe, fn := fn, tmps := tmps, params := ps, assign := assign, body := body, defers := B }

theorem own_turn {β : Type} {B B' : Nat} {I : β → World → Prop} (h : OwnFrom B I) (hB : B ≤ B') : OwnFrom B' I := fun s A C row hs hg hr => h s A C row hs hg (fun r e => ⟨by have := (hr r e).1; omega, (hr r e).2⟩)
theorem own_block {B l : Nat} {o : Obj} (hl : l < B) : OwnFrom B (fun (_ : Unit) W => W.heap[l]? = some o) := fun _ A C row hs hg hr =>
  (hg.block l (Array.getElem?_eq_some_iff.1 hs).1 (fun e => by have := (hr l e.symm).1; omega)).trans hs

theorem range_o {g : Operand} {ps : Array Tmp} {assign body : Code} {Q : Exit → Act → World → Prop} {a : Act} {w : World} {n : Nat}
    {gf : Nat} {lb : Array Value} (hg : a.eval g = .func (.func gf) #[] lb) (eg : ∀ args w, (callFunc gf args).run P w = .ok (.enter gf args) w)
    {encs : α → Array Value} {K : Nat → TypeId → Prop} {S Sp : List α → Prop} {N : Nat} {w0 : World} (hseq : SeqO P gf lb encs K S Sp N w0) (hb0 : Below w0.heap.size w0 w) (hps : ∀ x, (encs x).size = ps.size)
    (I : List α → World → Prop) (Ix : Code → List α → World → Prop) (hI : OwnFrom w.heap.size I) (hIx : ∀ c, OwnFrom w.heap.size (Ix c)) (h0 : I [] w)
    (Ax : α → Act → World → Prop) (hAx : ∀ x a', OwnFrom w.heap.size (fun (_ : Unit) W => Ax x a' W))
    (hassign : ∀ (l : Nat) (pre : List α) (x : α) (W : World) (R : Act → World → Prop), I pre W → (∀ a' W', KeepsFrom w.heap.size W W' → Kc K W W' → I pre W' → Ax x a' W' → R a' W') →
      assign.wpIn (Fence.wide.inRound l) (n - 1 - 1) P (Exit.then R (fun _ _ _ => False)) { tmps := (ps.zip (encs x)).foldl (fun t (p, v) => t.setIfInBounds p v) a.tmps, defers := [] } W)
    (hbody : ∀ (l : Nat) (pre : List α) (x : α) (a' : Act) (W : World), w.heap.size ≤ l → (∃ r, W.heap[l]? = some (.loop r)) → I pre W → Ax x a' W → pre.length < N → body.wpIn (Fence.wide.inRound l) (n - 1 - 1) P (ownPostG w.heap.size (Kc K) I Ix (pre ++ [x]) W) a' W)
    (hdone : ∀ (D : Nat) (xs : List α) (W : World), w.heap.size ≤ D → S xs → I xs W → W.heap[D]? = some (.deferred (some [])) → Q .normal { a with defers := { target := .collected D, args := #[] } :: a.defers } W)
    (hstop : ∀ (D : Nat) (c : Code) (pre : List α) (W : World), w.heap.size ≤ D → Sp pre → Ix c pre W → W.heap[D]? = some (.deferred (some [])) → c.wpIn Fence.wide n P Q { a with defers := { target := .collected D, args := #[] } :: a.defers } W) :
    (Code.rangeFunc g ps assign body).wpIn Fence.wide n P Q a w := by
  refine wpIn_rangeFunc fun fn hfn => ?_
  obtain ⟨B, hB⟩ : ∃ B, w.heap.size = B := ⟨_, rfl⟩
  obtain ⟨R, hR⟩ : ∃ R : LoopState → Option Code → Loop, R = recd fn a.tmps ps assign body B := ⟨_, rfl⟩
  obtain ⟨V, hV⟩ : ∃ V, (w.alloc (.deferred (some []))).alloc (.loop (R .ready none)) = V := ⟨_, rfl⟩
  have hVs : V.heap.size = B + 2 := by rw [← hV]; simp [hB]
  have hVl : V.heap[B + 1]? = some (.loop (R .ready none)) := by
    have := World.alloc_heap_new (w.alloc (.deferred (some []))) (.loop (R .ready none))
    rw [World.size_alloc, hB, hV] at this; exact this
  have hVd : V.heap[B]? = some (.deferred (some [])) := by
    rw [← hV, ← hB]; exact (Below.heap_alloc _ _ _ (by simp)).trans (World.alloc_heap_new w _)
  have hVb : Below w0.heap.size w0 V := by
    rw [← hV]; exact (hb0.alloc hb0.size _).alloc (by have := hb0.size; simp; omega) _
  have hVI : I [] V := by rw [← hV]; exact hI.alloc _ (hI.alloc _ h0)
  rw [hB] at hI hIx hAx hassign hbody hdone hstop
  refine ⟨B + 1, [{ target := .collected B, args := #[] }], V, { target := .fn (.func gf) lb, args := #[.func (.yield (B + 1)) #[] #[]] }, V, gf, #[.func (.yield (B + 1)) #[] #[]] ++ lb, V, ?_, ?_, fun _ _ => trivial, ?_, fun h => (by cases h), ?_⟩
  · have := run_enterLoop_outer (P := P) (w := w) fn a.tmps ps assign body
    rw [hB] at this
    rw [← hV, hR]
    exact this
  · simp only [resolve, hg]
    simp [go_sem]
  · simp [invoke, go_sem, eg]
  have turnI : OwnFrom V.heap.size (fun pre W => I pre W ∧ W.heap[B + 1]? = some (.loop (R .ready none)) ∧ W.heap[B]? = some (.deferred (some []))) := fun s X Y row hs hgr hr =>
    ⟨own_turn hI (by omega) s X Y row hs.1 hgr hr, own_block (by omega) () X Y row hs.2.1 hgr hr, own_block (by omega) () X Y row hs.2.2 hgr hr⟩
  have turnX : OwnFrom V.heap.size (fun pre W => ∃ c, Ix c pre W ∧ W.heap[B + 1]? = some (.loop (R .done (some c))) ∧ W.heap[B]? = some (.deferred (some []))) := fun s X Y row hs hgr hr => by
    obtain ⟨c, h1, h2, h3⟩ := hs
    exact ⟨c, own_turn (hIx c) (by omega) s X Y row h1 hgr hr, own_block (by omega) () X Y row h2 hgr hr, own_block (by omega) () X Y row h3 hgr hr⟩
  refine (hseq (n - 1) (B + 1) _ _ V hVb turnI turnX ?_ ⟨hVI, hVl, hVd⟩).mono ?_
  · rintro pre x W ⟨hi, hl, hd⟩ hlen m
    refine deep (m := n - 1 - 1) m ?_
    have hy := run_yield (P := P) (args := encs x) hl (by rw [hR]; exact hps x)
    rw [hR] at hy
    refine ⟨fn, _, assign, body, hy, roundIn_of_wpIn hfn (hassign _ pre x W _ hi ?_)⟩
    clear hy
    intro a' W' kf kc hi' hax
    have hl' := kf.same _ _ (by omega) hl rfl
    have hd' := kf.same _ _ (Nat.le_refl _) hd rfl
    have hlt : B + 1 < W'.heap.size := (Array.getElem?_eq_some_iff.1 hl').1
    refine ⟨_, run_beginRound hl' (by rw [hR]), ?_⟩
    obtain ⟨X, hX⟩ : ∃ X, W'.putObj (B + 1) (.loop { R .ready none with state := .busy }) = X := ⟨_, rfl⟩
    have xl : X.heap[B + 1]? = some (.loop { R .ready none with state := .busy }) := by rw [← hX]; exact World.putObj_heap_same hlt
    have xd : X.heap[B]? = some (.deferred (some [])) := by rw [← hX]; exact (World.putObj_heap_other (by omega)).trans hd'
    have xc : Kc K W' X := by rw [← hX]; exact Kc.put _ _ _ _ hl' rfl
    have xs : ∀ k, k ≠ B + 1 → X.heap[k]? = W'.heap[k]? := fun k hk => by rw [← hX]; exact World.putObj_heap_other hk
    have xz : X.heap.size = W'.heap.size := by rw [← hX]; simp
    have xi : I pre X := by rw [← hX]; exact hI.putObj _ hi' (by omega) hl' rfl
    have xa : Ax x a' X := by rw [← hX]; exact (hAx x a').putObj (s := ()) _ hax (by omega) hl' rfl
    rw [hX]
    refine wpIn_mono (hbody _ pre x a' X (by omega) ⟨_, xl⟩ xi xa hlen) ?_
    have fin : ∀ (jump : Option Code) (Y : World), KeepsFrom B X Y → ∃ Z, Y.putObj (B + 1) (.loop (R (if jump.isNone then .ready else .done) jump)) = Z ∧ (Instr.endRound (B + 1) jump).run P Y = .ok (.bool jump.isNone) Z ∧ Y.heap[B + 1]? = some (.loop { R .ready none with state := .busy }) ∧
        Z.heap[B + 1]? = some (.loop (R (if jump.isNone then .ready else .done) jump)) ∧ Z.heap[B]? = some (.deferred (some [])) ∧ KeepsFrom V.heap.size W Z := fun jump Y ky => by
      have yl := ky.same _ _ (by omega) xl rfl
      have h1 := run_endRound (P := P) jump yl
      refine ⟨_, rfl, ?_, yl, World.putObj_heap_same (Array.getElem?_eq_some_iff.1 yl).1, (World.putObj_heap_other (by omega)).trans (ky.same _ _ (Nat.le_refl _) xd rfl), ?_⟩
      · rw [hR] at h1 ⊢; exact h1
      · refine ⟨?_, fun k o hk h2 ho => ?_⟩
        · have := kf.size; have := ky.size; simp; omega
        · have h3 := kf.same k o (by omega) h2 ho
          have h4 := ky.same k o (by omega) ((xs k (by omega)).trans h3) ho
          exact (World.putObj_heap_other (by omega)).trans h4
    rintro e a3 Y hp
    cases e with
    | normal =>
      obtain ⟨ky, kyc, yi⟩ := hp
      obtain ⟨Z, hZ, hr, yl, zl, zd, kz⟩ := fin none Y ky
      exact ⟨_, Z, hr, kz, .inl ⟨rfl, ⟨by rw [← hZ]; exact hI.putObj _ yi (by omega) yl rfl, zl, zd⟩, ((kc.trans xc).trans kyc).trans (by rw [← hZ]; exact Kc.put _ _ _ _ yl rfl)⟩⟩
    | ret =>
      obtain ⟨ky, yi⟩ := hp
      obtain ⟨Z, hZ, hr, yl, zl, zd, kz⟩ := fin (some .ret) Y ky
      exact ⟨_, Z, hr, kz, .inr ⟨rfl, .ret, by rw [← hZ]; exact (hIx _).putObj _ yi (by omega) yl rfl, zl, zd⟩⟩
    | exit id =>
      obtain ⟨ky, yi⟩ := hp
      obtain ⟨Z, hZ, hr, yl, zl, zd, kz⟩ := fin (some (.exit id)) Y ky
      exact ⟨_, Z, hr, kz, .inr ⟨rfl, .exit id, by rw [← hZ]; exact (hIx _).putObj _ yi (by omega) yl rfl, zl, zd⟩⟩
    | goto t =>
      obtain ⟨ky, yi⟩ := hp
      obtain ⟨Z, hZ, hr, yl, zl, zd, kz⟩ := fin (some (.goto t)) Y ky
      exact ⟨_, Z, hr, kz, .inr ⟨rfl, .goto t, by rw [← hZ]; exact (hIx _).putObj _ yi (by omega) yl rfl, zl, zd⟩⟩
    | panic ch => exact hp.elim
    | outgrown => exact hp.elim
  · rintro e X ⟨⟨v, rfl⟩, (⟨xs, hS, hi, hl, hk⟩ | ⟨pre, hSp, c, hi, hl, hk⟩)⟩
    · exact ⟨none, _, by have := run_endLoop (P := P) hl (by rw [hR]; simp); rw [hR] at this; exact this, hdone _ xs _ (Nat.le_refl _) hS (hI.putObj _ hi (by omega) hl rfl) ((World.putObj_heap_other (by omega)).trans hk)⟩
    · exact ⟨some c, _, by have := run_endLoop (P := P) hl (by rw [hR]; simp); rw [hR] at this; exact this, hstop _ c pre _ (Nat.le_refl _) hSp ((hIx c).putObj _ hi (by omega) hl rfl) ((World.putObj_heap_other (by omega)).trans hk)⟩
end
end Go.Proofs.Ytchealdgncgjoaa.It
