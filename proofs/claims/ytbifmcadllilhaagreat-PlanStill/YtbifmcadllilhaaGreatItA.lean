import Derived.RangeFuncNested
import Derived.RangeFuncBound
import Derived.RangeFuncCalls
import Derived.RangeFuncLeaves
import Derived.Shelf.Abstract
import Derived.OwnWalkIn
import Derived.TacticsInMore
import Derived.Test.YtbifmcadllilhaaGreatPnC
namespace Go.Proofs.YtbifmcadllilhaaGreat.It
open Go.RowKit Go.Shelf
set_option linter.unusedVariables false

/-- the cells of the blocks of K (by number and type) are as they were -/
def Kc (K : Nat → TypeId → Prop) (W W' : World) : Prop := ∀ k c t m, K k t → W.heap[k]? = some (.cells c t m) → W'.heap[k]? = some (.cells c t m)
theorem Kc.refl (K : Nat → TypeId → Prop) (W : World) : Kc K W W := fun _ _ _ _ _ h => h
theorem Kc.trans {K : Nat → TypeId → Prop} {A B C : World} (h : Kc K A B) (k : Kc K B C) : Kc K A C := fun i c t m hi e => k i c t m hi (h i c t m hi e)
theorem Kc.mono {K K' : Nat → TypeId → Prop} {A B : World} (h : Kc K A B) (hk : ∀ k t, K' k t → K k t) : Kc K' A B := fun i c t m hi e => h i c t m (hk i t hi) e
theorem Kc.put {K : Nat → TypeId → Prop} (W : World) (l : Nat) (o o' : Obj) (h : W.heap[l]? = some o) (hc : o.isCells = false) : Kc K W (W.putObj l o') := fun k c t m _ e => by
  by_cases hk : l = k
  · subst hk; rw [h] at e; cases e; cases hc
  · exact (World.putObj_heap_other (fun h => hk h.symm)).trans e

/-- a round may be asked at any depth -/
theorem deep {m : Nat} (m' : Nat) {P : Program} {l : Nat} {args : Array Value} {W : World} {R : Ending → World → Prop} (h : YieldAt Fence.wide m P l args W R) : YieldAt Fence.wide m' P l args W R := by
  obtain ⟨fn, tmps, assign, body, hy, hR⟩ := h
  exact ⟨fn, tmps, assign, body, hy, ⟨hR.1, fun c cs _ => hR.2 c cs (fun d h => by cases h)⟩⟩

/-- a sequence that may itself go through another one: the caller's word stands whatever of the sequence's own blocks turns -/
def SeqO {α : Type} (P : Program) (g : Nat) (lb : Array Value) (encs : α → Array Value) (K : Nat → TypeId → Prop) (S Sp : List α → Prop) (N : Nat) (w : World) : Prop :=
  ∀ (n l : Nat) (J Jx : List α → World → Prop) (W : World), Below w.heap.size w W → OwnFrom W.heap.size J → OwnFrom W.heap.size Jx →
    (∀ pre x W1, J pre W1 → pre.length < N → ∀ m, YieldAt Fence.wide m P l (encs x) W1 fun e W' => KeepsFrom W.heap.size W1 W' ∧
      ((e = .returned (.bool true) ∧ J (pre ++ [x]) W' ∧ Kc K W1 W') ∨ (e = .returned (.bool false) ∧ Jx (pre ++ [x]) W'))) →
    J [] W →
    CallsIn Fence.wide n P g (#[.func (.yield l) #[] #[]] ++ lb) W fun e W' => (∃ v, e = .returned v) ∧ ((∃ xs, S xs ∧ J xs W') ∨ (∃ pre, Sp pre ∧ Jx pre W'))

section
variable {P : Program} {α : Type}
theorem SeqO.of_stops {g : Nat} {lb : Array Value} {encs : α → Array Value} {K : Nat → TypeId → Prop} {S Sp : List α → Prop} {N : Nat} {w : World} (h : ∀ n, SeqStopsK Fence.wide n P g lb encs (Kc K) S Sp N w) : SeqO P g lb encs K S Sp N w :=
  fun n l J Jx W hb hJ hJx hY h0 => h n l J Jx W hb (fun s A B row hs hg hr => hJ s A B row hs hg (fun r e => ⟨(hr r e).1, _, (hr r e).2.choose_spec.1, Obj.not_cells_of_walk (hr r e).2.choose_spec.2⟩))
    (fun s A B row hs hg hr => hJx s A B row hs hg (fun r e => ⟨(hr r e).1, _, (hr r e).2.choose_spec.1, Obj.not_cells_of_walk (hr r e).2.choose_spec.2⟩))
    (fun pre x W1 hj hl => by
      obtain ⟨fn, tmps, assign, body, hy, hR⟩ := hY pre x W1 hj hl (n - 1)
      exact ⟨fn, tmps, assign, body, hy, hR.mono fun e W' hh => hh.2⟩) h0

/-- how a loop's record looks -/
abbrev recd (fn : FuncId) (tmps : Array Value) (ps : Array Tmp) (assign body : Code) (B : Nat) (st : LoopState) (pe : Option Code) : Loop := { state := st, pending := pe, fn := fn, tmps := tmps, params := ps, assign := assign, body := body, defers := B }

theorem own_turn {β : Type} {B B' : Nat} {I : β → World → Prop} (h : OwnFrom B I) (hB : B ≤ B') : OwnFrom B' I := fun s A C row hs hg hr => h s A C row hs hg (fun r e => ⟨by have := (hr r e).1; omega, (hr r e).2⟩)
theorem own_block {B l : Nat} {o : Obj} (hl : l < B) : OwnFrom B (fun (_ : Unit) W => W.heap[l]? = some o) := fun _ A C row hs hg hr =>
  (hg.block l (Array.getElem?_eq_some_iff.1 hs).1 (fun e => by have := (hr l e.symm).1; omega)).trans hs

theorem range_o {g : Operand} {ps : Array Tmp} {assign body : Code} {Q : Exit → Act → World → Prop} {a : Act} {w : World} {n : Nat}
    {gf : Nat} {lb : Array Value} (hg : a.eval g = .func (.func gf) #[] lb) (eg : ∀ args w, (callFunc gf args).run P w = .ok (.enter gf args) w)
    {encs : α → Array Value} {K : Nat → TypeId → Prop} {S Sp : List α → Prop} {N : Nat} {w0 : World} (hseq : SeqO P gf lb encs K S Sp N w0) (hb0 : Below w0.heap.size w0 w) (hps : ∀ x, (encs x).size = ps.size)
    (I : List α → World → Prop) (Ix : Code → List α → World → Prop) (hI : OwnFrom w.heap.size I) (hIx : ∀ c, OwnFrom w.heap.size (Ix c)) (h0 : I [] w)
    (Ax : α → Act → World → Prop) (hAx : ∀ x a', OwnFrom w.heap.size (fun (_ : Unit) W => Ax x a' W))
    (hassign : ∀ (l : Nat) (pre : List α) (x : α) (W : World) (R : Act → World → Prop), I pre W → (∀ a' W', KeepsFrom w.heap.size W W' → Kc K W W' → I pre W' → Ax x a' W' → R a' W') →
      assign.wpIn (Fence.wide.inRound l) (n - 1 - 1) P (Exit.then R (fun _ _ _ => False)) { tmps := (ps.zip (encs x)).foldl (fun t (p, v) => t.setIfInBounds p v) a.tmps, defers := [] } W)
    (hbody : ∀ (l : Nat) (pre : List α) (x : α) (a' : Act) (W : World), w.heap.size ≤ l → (∃ r, W.heap[l]? = some (.loop r)) → I pre W → Ax x a' W → pre.length < N → body.wpIn (Fence.wide.inRound l) (n - 1 - 1) P (ownPostG w.heap.size (Kc K) I Ix (pre ++ [x]) W) a' W)
    (hdone : ∀ (D : Nat) (xs : List α) (W : World), w.heap.size ≤ D → S xs → I xs W → W.heap[D]? = some (.deferred (some [])) → Q .normal { a with defers := { target := .collected D, args := #[] } :: a.defers } W)
    (hstop : ∀ (D : Nat) (c : Code) (pre : List α) (W : World), w.heap.size ≤ D → Sp pre → Ix c pre W → W.heap[D]? = some (.deferred (some [])) → c.wpIn Fence.wide n P Q { a with defers := { target := .collected D, args := #[] } :: a.defers } W) :
    (Code.rangeFunc g ps assign body).wpIn Fence.wide n P Q a w := by
  refine wpIn_rangeFunc fun fn hfn => ?_
  obtain ⟨B, hB⟩ : ∃ B, w.heap.size = B := ⟨_, rfl⟩
  obtain ⟨R, hR⟩ : ∃ R : LoopState → Option Code → Loop, R = recd fn a.tmps ps assign body B := ⟨_, rfl⟩
  obtain ⟨V, hV⟩ : ∃ V, (w.alloc (.deferred (some []))).alloc (.loop (R .ready none)) = V := ⟨_, rfl⟩
  have hVs : V.heap.size = B + 2 := by rw [← hV]; simp [hB]
  have hVl : V.heap[B + 1]? = some (.loop (R .ready none)) := by
    have := World.alloc_heap_new (w.alloc (.deferred (some []))) (.loop (R .ready none))
    rw [World.size_alloc, hB, hV] at this; exact this
  have hVd : V.heap[B]? = some (.deferred (some [])) := by
    rw [← hV, ← hB]; exact (Below.heap_alloc _ _ _ (by simp)).trans (World.alloc_heap_new w _)
  have hVb : Below w0.heap.size w0 V := by
    rw [← hV]; exact (hb0.alloc hb0.size _).alloc (by have := hb0.size; simp; omega) _
  have hVI : I [] V := by rw [← hV]; exact hI.alloc _ (hI.alloc _ h0)
  rw [hB] at hI hIx hAx hassign hbody hdone hstop
  refine ⟨B + 1, [{ target := .collected B, args := #[] }], V, { target := .fn (.func gf) lb, args := #[.func (.yield (B + 1)) #[] #[]] }, V, gf, #[.func (.yield (B + 1)) #[] #[]] ++ lb, V, ?_, ?_, fun _ _ => trivial, ?_, fun h => (by cases h), ?_⟩
  · have := run_enterLoop_outer (P := P) (w := w) fn a.tmps ps assign body
    rw [hB] at this
    rw [← hV, hR]
    exact this
  · simp only [resolve, hg]
    simp [go_sem]
  · simp [invoke, go_sem, eg]
  have turnI : OwnFrom V.heap.size (fun pre W => I pre W ∧ W.heap[B + 1]? = some (.loop (R .ready none)) ∧ W.heap[B]? = some (.deferred (some []))) := fun s X Y row hs hgr hr =>
    ⟨own_turn hI (by omega) s X Y row hs.1 hgr hr, own_block (by omega) () X Y row hs.2.1 hgr hr, own_block (by omega) () X Y row hs.2.2 hgr hr⟩
  have turnX : OwnFrom V.heap.size (fun pre W => ∃ c, Ix c pre W ∧ W.heap[B + 1]? = some (.loop (R .done (some c))) ∧ W.heap[B]? = some (.deferred (some []))) := fun s X Y row hs hgr hr => by
    obtain ⟨c, h1, h2, h3⟩ := hs
    exact ⟨c, own_turn (hIx c) (by omega) s X Y row h1 hgr hr, own_block (by omega) () X Y row h2 hgr hr, own_block (by omega) () X Y row h3 hgr hr⟩
  refine (hseq (n - 1) (B + 1) _ _ V hVb turnI turnX ?_ ⟨hVI, hVl, hVd⟩).mono ?_
  · rintro pre x W ⟨hi, hl, hd⟩ hlen m
    refine deep (m := n - 1 - 1) m ?_
    have hy := run_yield (P := P) (args := encs x) hl (by rw [hR]; exact hps x)
    rw [hR] at hy
    refine ⟨fn, _, assign, body, hy, roundIn_of_wpIn hfn (hassign _ pre x W _ hi ?_)⟩
    clear hy
    intro a' W' kf kc hi' hax
    have hl' := kf.same _ _ (by omega) hl rfl
    have hd' := kf.same _ _ (Nat.le_refl _) hd rfl
    have hlt : B + 1 < W'.heap.size := (Array.getElem?_eq_some_iff.1 hl').1
    refine ⟨_, run_beginRound hl' (by rw [hR]), ?_⟩
    obtain ⟨X, hX⟩ : ∃ X, W'.putObj (B + 1) (.loop { R .ready none with state := .busy }) = X := ⟨_, rfl⟩
    have xl : X.heap[B + 1]? = some (.loop { R .ready none with state := .busy }) := by rw [← hX]; exact World.putObj_heap_same hlt
    have xd : X.heap[B]? = some (.deferred (some [])) := by rw [← hX]; exact (World.putObj_heap_other (by omega)).trans hd'
    have xc : Kc K W' X := by rw [← hX]; exact Kc.put _ _ _ _ hl' rfl
    have xs : ∀ k, k ≠ B + 1 → X.heap[k]? = W'.heap[k]? := fun k hk => by rw [← hX]; exact World.putObj_heap_other hk
    have xz : X.heap.size = W'.heap.size := by rw [← hX]; simp
    have xi : I pre X := by rw [← hX]; exact hI.putObj _ hi' (by omega) hl' rfl
    have xa : Ax x a' X := by rw [← hX]; exact (hAx x a').putObj (s := ()) _ hax (by omega) hl' rfl
    rw [hX]
    refine wpIn_mono (hbody _ pre x a' X (by omega) ⟨_, xl⟩ xi xa hlen) ?_
    have fin : ∀ (jump : Option Code) (Y : World), KeepsFrom B X Y → ∃ Z, Y.putObj (B + 1) (.loop (R (if jump.isNone then .ready else .done) jump)) = Z ∧ (Instr.endRound (B + 1) jump).run P Y = .ok (.bool jump.isNone) Z ∧ Y.heap[B + 1]? = some (.loop { R .ready none with state := .busy }) ∧
        Z.heap[B + 1]? = some (.loop (R (if jump.isNone then .ready else .done) jump)) ∧ Z.heap[B]? = some (.deferred (some [])) ∧ KeepsFrom V.heap.size W Z := fun jump Y ky => by
      have yl := ky.same _ _ (by omega) xl rfl
      have h1 := run_endRound (P := P) jump yl
      refine ⟨_, rfl, ?_, yl, World.putObj_heap_same (Array.getElem?_eq_some_iff.1 yl).1, (World.putObj_heap_other (by omega)).trans (ky.same _ _ (Nat.le_refl _) xd rfl), ?_⟩
      · rw [hR] at h1 ⊢; exact h1
      · refine ⟨?_, fun k o hk h2 ho => ?_⟩
        · have := kf.size; have := ky.size; simp; omega
        · have h3 := kf.same k o (by omega) h2 ho
          have h4 := ky.same k o (by omega) ((xs k (by omega)).trans h3) ho
          exact (World.putObj_heap_other (by omega)).trans h4
    rintro e a3 Y hp
    cases e with
    | normal =>
      obtain ⟨ky, kyc, yi⟩ := hp
      obtain ⟨Z, hZ, hr, yl, zl, zd, kz⟩ := fin none Y ky
      exact ⟨_, Z, hr, kz, .inl ⟨rfl, ⟨by rw [← hZ]; exact hI.putObj _ yi (by omega) yl rfl, zl, zd⟩, ((kc.trans xc).trans kyc).trans (by rw [← hZ]; exact Kc.put _ _ _ _ yl rfl)⟩⟩
    | ret =>
      obtain ⟨ky, yi⟩ := hp
      obtain ⟨Z, hZ, hr, yl, zl, zd, kz⟩ := fin (some .ret) Y ky
      exact ⟨_, Z, hr, kz, .inr ⟨rfl, .ret, by rw [← hZ]; exact (hIx _).putObj _ yi (by omega) yl rfl, zl, zd⟩⟩
    | exit id =>
      obtain ⟨ky, yi⟩ := hp
      obtain ⟨Z, hZ, hr, yl, zl, zd, kz⟩ := fin (some (.exit id)) Y ky
      exact ⟨_, Z, hr, kz, .inr ⟨rfl, .exit id, by rw [← hZ]; exact (hIx _).putObj _ yi (by omega) yl rfl, zl, zd⟩⟩
    | goto t =>
      obtain ⟨ky, yi⟩ := hp
      obtain ⟨Z, hZ, hr, yl, zl, zd, kz⟩ := fin (some (.goto t)) Y ky
      exact ⟨_, Z, hr, kz, .inr ⟨rfl, .goto t, by rw [← hZ]; exact (hIx _).putObj _ yi (by omega) yl rfl, zl, zd⟩⟩
    | panic ch => exact hp.elim
    | outgrown => exact hp.elim
  · rintro e X ⟨⟨v, rfl⟩, (⟨xs, hS, hi, hl, hk⟩ | ⟨pre, hSp, c, hi, hl, hk⟩)⟩
    · exact ⟨none, _, by have := run_endLoop (P := P) hl (by rw [hR]; simp); rw [hR] at this; exact this, hdone _ xs _ (Nat.le_refl _) hS (hI.putObj _ hi (by omega) hl rfl) ((World.putObj_heap_other (by omega)).trans hk)⟩
    · exact ⟨some c, _, by have := run_endLoop (P := P) hl (by rw [hR]; simp); rw [hR] at this; exact this, hstop _ c pre _ (Nat.le_refl _) hSp ((hIx c).putObj _ hi (by omega) hl rfl) ((World.putObj_heap_other (by omega)).trans hk)⟩
end
end Go.Proofs.YtbifmcadllilhaaGreat.It
namespace Go.Proofs.YtbifmcadllilhaaGreat.Pn
open Go.RowKit Ieee
set_option linter.unusedVariables false
set_option linter.unusedSimpArgs false
theorem order_two {x y : Nat} (hx : 2 ^ 52 ≤ x) (hx1 : x < 2047 * 2 ^ 52) (hy : 2 ^ 52 ≤ y) (hy1 : y < 2047 * 2 ^ 52) (h : y ≤ x) : double.order x y = some .gt ∨ double.order x y = some .eq := by
  have hb : double.binade = 2 ^ 52 := rfl
  have hi : double.infRung = 2047 * 2 ^ 52 := rfl
  have hs : double.signWeight = 2 ^ 63 := rfl
  have rd : ∀ z, 2 ^ 52 ≤ z → z < 2047 * 2 ^ 52 → double.read z = .number false (2 ^ 52 + z % 2 ^ 52) (double.leastPlace + (z / 2 ^ 52 - 1 : Nat)) := fun z h1 h2 => by
    unfold Format.read
    simp only [hb, hi, hs]
    rw [Nat.mod_eq_of_lt (show z < 2 ^ 63 by omega), if_neg (by omega), if_pos h2, Nat.div_eq_of_lt (show z < 2 ^ 63 by omega)]
    rfl
  unfold Format.order
  rw [rd x hx hx1, rd y hy hy1]
  simp only [Datum.order]
  obtain ⟨p, hp⟩ : ∃ p, y / 2 ^ 52 - 1 = p := ⟨_, rfl⟩
  obtain ⟨q, hq⟩ : ∃ q, x / 2 ^ 52 - 1 = q := ⟨_, rfl⟩
  have hpq : p ≤ q := by omega
  rw [hp, hq]
  have e1 : (double.leastPlace + (p : Int) - min (double.leastPlace + (q : Int)) (double.leastPlace + (p : Int))).toNat = 0 := by omega
  have e2 : (double.leastPlace + (q : Int) - min (double.leastPlace + (q : Int)) (double.leastPlace + (p : Int))).toNat = q - p := by omega
  rw [e1, e2]
  have hle : (2 ^ 52 + y % 2 ^ 52) ≤ (2 ^ 52 + x % 2 ^ 52) * 2 ^ (q - p) := by
    rcases Nat.lt_or_ge p q with c | c
    · have h1 : 2 ^ 1 ≤ 2 ^ (q - p) := Nat.pow_le_pow_right (by decide) (by omega)
      have h2 : (2 ^ 52 + x % 2 ^ 52) * 2 ^ 1 ≤ (2 ^ 52 + x % 2 ^ 52) * 2 ^ (q - p) := Nat.mul_le_mul_left _ h1
      omega
    · rw [show q - p = 0 by omega, Nat.pow_zero, Nat.mul_one]
      omega
  show some (compare (signed false _ _) (signed false _ _)) = _ ∨ _
  simp only [signed, Nat.shiftLeft_eq, Nat.pow_zero, Nat.mul_one]
  have hle' : ((2 ^ 52 + y % 2 ^ 52 : Nat) : Int) ≤ (((2 ^ 52 + x % 2 ^ 52) * 2 ^ (q - p) : Nat) : Int) := by exact_mod_cast hle
  generalize ((2 ^ 52 + y % 2 ^ 52 : Nat) : Int) = A at hle' ⊢
  generalize (((2 ^ 52 + x % 2 ^ 52) * 2 ^ (q - p) : Nat) : Int) = B at hle' ⊢
  rcases Int.lt_or_eq_of_le hle' with c | c
  · refine .inl ?_
    simp only [compare, compareOfLessAndEq, Bool.false_eq_true, if_false]
    rw [if_neg (by omega), if_neg (by omega)]
  · exact .inr (by simp [compare, compareOfLessAndEq, c])
/-- the word that Skew answers -/
def SkV (o : List Int) (r : Nat) : Prop := (o.sum = 0 ∧ r = 4607182418800017408) ∨ (0 < o.sum ∧ ∃ m L K, isMx o m ∧ Qn (m * (o.length : Int)).toNat o.sum.toNat L K ∧ r = (L + 1022) * 2 ^ 52 + K)
theorem sum_le_mx {m : Int} : ∀ {o : List Int}, (∀ x ∈ o, x ≤ m) → o.sum ≤ m * (o.length : Int)
  | [], _ => by simp
  | x :: o, h => by
    have ih := sum_le_mx (o := o) (fun y hy => h y (by simp [hy]))
    have := h x (by simp)
    rw [List.sum_cons, List.length_cons]
    have e : m * ((o.length + 1 : Nat) : Int) = m * (o.length : Int) + m := by rw [Int.natCast_add, Int.mul_add]; simp
    rw [e]
    omega
theorem skv_of {o : List Int} {m : Int} {r : Nat} (hm : MBL o) (hs : 0 < o.sum) (hx : isMx o m) (h : floatBits .quo .f64 (floatOfInt .f64 (m * (o.length : Int))) (floatOfInt .f64 o.sum) = some r) : SkV o r := by
  have hle := sum_le_mx hx.2
  have hb := hm.2.2 m hx.1
  have hl := hm.2.1
  have h1 := hm.1
  have hmn : 0 ≤ m * (o.length : Int) ∧ m * (o.length : Int) ≤ 17179869184 := by
    refine ⟨Int.mul_nonneg hb.1 (by omega), ?_⟩
    have h1 : m * (o.length : Int) ≤ 1073741824 * (o.length : Int) := Int.mul_le_mul_of_nonneg_right hb.2 (by omega)
    omega
  have fo : ∀ a : Int, 0 ≤ a → floatOfInt .f64 a = double.nearest false a.toNat 0 := fun a h => by
    show double.write (.number (decide (a < 0)) a.natAbs 0) = _
    have e1 : decide (a < 0) = false := by simpa using h
    have e2 : a.natAbs = a.toNat := by omega
    rw [e1, e2]
    rfl
  obtain ⟨A, hA⟩ : ∃ A, (m * (o.length : Int)).toNat = A := ⟨_, rfl⟩
  obtain ⟨B, hB⟩ : ∃ B, o.sum.toNat = B := ⟨_, rfl⟩
  obtain ⟨L, K, q, e⟩ := quo_near A B (by omega) (by omega) (by omega)
  rw [fo _ hmn.1, fo _ (by omega), hA, hB] at h
  have h2 : double.div (double.nearest false A 0) (double.nearest false B 0) = some r := h
  rw [e] at h2
  exact .inr ⟨hs, m, L, K, hx, by rw [hA, hB]; exact q, (Option.some.inj h2).symm⟩
theorem SkV.bd {o : List Int} {r : Nat} (h : SkV o r) : 4607182418800017408 ≤ r ∧ r < 2047 * 2 ^ 52 := by
  rcases h with ⟨_, rfl⟩ | ⟨hs, m, L, K, _, q, rfl⟩
  · omega
  · have k := q.kb (by omega)
    have := q.l
    omega
theorem SkV.mono {o o' : List Int} {r r' m m' : _} (h : SkV o r) (h' : SkV o' r') (hs : o'.sum = o.sum) (hl : o'.length = o.length) (hm : isMx o m) (hm' : isMx o' m') (hle : m' ≤ m) : r' ≤ r := by
  rcases h with ⟨a, rfl⟩ | ⟨a, x, L, K, hx, q, rfl⟩
  · rcases h' with ⟨_, rfl⟩ | ⟨b, _⟩
    · exact Nat.le_refl _
    · omega
  · rcases h' with ⟨b, rfl⟩ | ⟨b, x', L', K', hx', q', rfl⟩
    · omega
    · have e1 := hm.2 x hx.1
      have e2 := hx.2 m hm.1
      have e3 := hm'.2 x' hx'.1
      rw [hl, hs] at q'
      refine q.mono q' (by omega) ?_
      have : x' * (o.length : Int) ≤ x * (o.length : Int) := Int.mul_le_mul_of_nonneg_right (by omega) (by omega)
      omega
end Go.Proofs.YtbifmcadllilhaaGreat.Pn
namespace Go.Proofs.YtbifmcadllilhaaGreat.Pn
open Go.RowKit Ieee
set_option linter.unusedVariables false
set_option linter.unusedSimpArgs false
theorem isMx.unique {o : List Int} {a b : Int} (h : isMx o a) (k : isMx o b) : a = b := by
  have h1 := h.2 b k.1
  have h2 := k.2 a h.1
  omega
/-- what Skew answers -/
def SkR (o : List Int) (e : Ending) : Prop :=
  (¬ MBL o ∧ e = .returned (.tuple #[.float .f64 0, .int .i64 150])) ∨ (MBL o ∧ o.sum = 0 ∧ e = .returned (.tuple #[.float .f64 4607182418800017408, .int .i64 0])) ∨
  (MBL o ∧ 0 < o.sum ∧ ∃ m r, isMx o m ∧ floatBits .quo .f64 (floatOfInt .f64 (m * (o.length : Int))) (floatOfInt .f64 o.sum) = some r ∧ FloatKind.f64.format.order r r = some .eq ∧ e = .returned (.tuple #[.float .f64 r, .int .i64 0]))
set_option maxRecDepth 100000 in
set_option maxHeartbeats 1000000 in
theorem skew15 (w : World) (u : Value) (o : List Int) (h : Ns w u o) (hN : o.length ≤ 140737488351232) : Calls Tryz.prog 15 #[u] w fun e w' => SkR o e ∧ w' = w := by
  have MB := mayBe27 w u o h hN
  have TO := total28 w u o h
  have MX := max29 w u o h
  obtain ⟨a, cap, rfl, _, _⟩ := id h
  obtain ⟨N, eN⟩ : ∃ N, o.length = N := ⟨_, rfl⟩
  have HN := hide (And.intro h (And.intro eN (And.intro TO MX)))
  rw [eN] at MB ⊢
  clear h hN eN TO MX
  go_enter Tryz.func15, Tryz.ntmps15
  go_wp2_with fail
  refine MB.mono ?_; rintro e w1 ⟨⟨b1, rfl, hb1⟩, hw⟩
  obtain rfl := hw
  have HB := hide hb1
  clear MB hb1
  cases b1 with
  | false =>
    go_wp2
    go_ret2
    exact ⟨.inl ⟨fun q => by have := HB.out.2 q; simp at this, rfl⟩, rfl⟩
  | true =>
  have hm : MBL o := HB.out.1 (by simp)
  have T := HN.out.2.2.1 hm
  have M := HN.out.2.2.2 hm.1 hm.2.1
  rw [HN.out.2.1] at T M
  have HM := hide hm
  obtain ⟨S, eS⟩ : ∃ S, o.sum = S := ⟨_, rfl⟩
  have HS := hide eS
  rw [eS] at T
  clear hm eS
  go_wp2_with fail
  refine T.mono ?_; rintro e w2 ⟨rfl, hw⟩
  obtain rfl := hw
  clear T
  by_cases h0 : S = 0
  · have e0 : (S == 0) = true := by simpa using h0
    have H0 := hide h0
    clear h0 M
    go_wp2
    go_ret2
    exact ⟨.inr (.inl ⟨HM.out, by rw [HS.out]; exact H0.out, rfl⟩), rfl⟩
  have e0 : (S == 0) = false := by simpa using h0
  have H0 := hide h0
  clear h0
  go_wp2_with fail
  refine M.mono ?_; rintro e w3 ⟨⟨m, rfl, hm⟩, hw⟩
  obtain rfl := hw
  have hb := sum_bound HM.out.2.2
  rw [HS.out] at hb
  have hl := HM.out.2.1
  have hl1 := HM.out.1
  have hmb := HM.out.2.2 m hm.1
  have hn0 := H0.out
  rw [HN.out.2.1] at hl hl1 hb
  have hmn : 0 ≤ m * (N : Int) ∧ m * (N : Int) ≤ 17179869184 := by
    refine ⟨Int.mul_nonneg hmb.1 (by omega), ?_⟩
    have h1 : m * (N : Int) ≤ 1073741824 * (N : Int) := Int.mul_le_mul_of_nonneg_right hmb.2 (by omega)
    omega
  obtain ⟨r, hr, hrr⟩ := quo_ok (m * (N : Int)) S hmn.1 (by omega) (by omega) (by omega)
  have hq : ∀ W, (binOp .quo 47 (.float .f64 (floatOfInt .f64 (m * (N : Int)))) (.float .f64 (floatOfInt .f64 S))).run Tryz.prog W = .ok (.float .f64 r) W := fun W => run_float_arith W _ _ _ _ _ _ hr
  have ew : IntKind.i64.wrap (m * (N : Int)) = m * (N : Int) := by rw [IntKind.wrap_i64]; omega
  have ew2 : wrap64 (m * (N : Int)) = m * (N : Int) := by unfold wrap64; omega
  have HR := hide (And.intro hm (And.intro hr (And.intro hrr (by omega : 0 < S))))
  clear M hm hb hl hl1 hmb hn0 hmn hr hrr
  go_wp2
  go_ret2
  refine ⟨.inr (.inr ⟨HM.out, by rw [HS.out]; exact HR.out.2.2.2, m, r, HR.out.1, ?_, HR.out.2.2.1, rfl⟩), rfl⟩
  rw [HN.out.2.1, HS.out]
  exact HR.out.2.1
/-- what Skew answers of loads that may be -/
theorem SkR.val {o : List Int} {e : Ending} (h : SkR o e) (hm : MBL o) : ∃ r, e = .returned (.tuple #[.float .f64 r, .int .i64 0]) ∧ SkV o r := by
  rcases h with ⟨h, _⟩ | ⟨_, h0, e⟩ | ⟨_, hs, m, r, hx, hf, _, e⟩
  · exact absurd hm h
  · exact ⟨_, e, .inl ⟨h0, rfl⟩⟩
  · exact ⟨_, e, skv_of hm hs hx hf⟩
theorem run_lss_one {r : Nat} (h : 4607182418800017408 ≤ r ∧ r < 2047 * 2 ^ 52) (W : World) : (binOp .lss 47 (.float .f64 r) (.float .f64 4607182418800017408)).run Tryz.prog W = .ok (.bool false) W := by
  have ho := order_two (x := r) (y := 4607182418800017408) (by omega) h.2 (by omega) (by omega) h.1
  show (Op.floatCmp .lss .f64 r 4607182418800017408).run Tryz.prog W = _
  unfold Op.floatCmp
  have hf : FloatKind.f64.format = double := rfl
  rw [hf]
  rcases ho with ho | ho <;> rw [ho] <;> rfl
theorem run_geq_one {r : Nat} (h : 4607182418800017408 ≤ r ∧ r < 2047 * 2 ^ 52) (W : World) : (binOp .geq 47 (.float .f64 r) (.float .f64 4607182418800017408)).run Tryz.prog W = .ok (.bool true) W := by
  have ho := order_two (x := r) (y := 4607182418800017408) (by omega) h.2 (by omega) (by omega) h.1
  show (Op.floatCmp .geq .f64 r 4607182418800017408).run Tryz.prog W = _
  unfold Op.floatCmp
  have hf : FloatKind.f64.format = double := rfl
  rw [hf]
  rcases ho with ho | ho <;> rw [ho] <;> rfl
theorem run_leq_two {x y : Nat} (hx : 4607182418800017408 ≤ x) (hy : y < 2047 * 2 ^ 52) (h : x ≤ y) (W : World) : (binOp .leq 47 (.float .f64 x) (.float .f64 y)).run Tryz.prog W = .ok (.bool true) W := by
  have ho := order_word (x := x) (y := y) h (by omega) hy
  show (Op.floatCmp .leq .f64 x y).run Tryz.prog W = _
  unfold Op.floatCmp
  have hf : FloatKind.f64.format = double := rfl
  rw [hf]
  rcases ho with ho | ho <;> rw [ho] <;> rfl
end Go.Proofs.YtbifmcadllilhaaGreat.Pn
