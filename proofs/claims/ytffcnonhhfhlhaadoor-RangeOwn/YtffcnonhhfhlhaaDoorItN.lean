import Derived.Test.YtffcnonhhfhlhaaDoorRgHq
import Derived.Test.YtffcnonhhfhlhaaDoorItB
namespace Go.Proofs.YtffcnonhhfhlhaaDoor.Rg
open Go.RowKit Go.Shelf Go.Sort
open Go.Proofs.YtffcnonhhfhlhaaDoor.It
attribute [local go_sem] Oper.semAt_some
set_option linter.unusedVariables false

set_option maxRecDepth 100000 in
set_option maxHeartbeats 2000000 in
/-- a range whose ends are the wrong way round: nothing is told -/
theorem within0_q (w : World) (Bl Bh Br : Nat) (lo hi : Int) (hgt : lo > hi) (K : Nat → TypeId → Prop)
    (hbl : w.heap[Bl]? = some (.cells #[.int .u64 lo] 23 (0, 0))) (hbh : w.heap[Bh]? = some (.cells #[.int .u64 hi] 23 (0, 0))) :
    SeqQ Tryd.prog 45 #[.pointer (some ⟨Bl, 0, none⟩), .pointer (some ⟨Bh, 0, none⟩), .pointer (some ⟨Br, 0, none⟩)] (fun x : Sg => #[enc x]) K (fun xs => xs = []) (fun pre => pre <+: []) 0 w := by
  intro n l J Jx W hb hJ hJx hY h0
  replace hbl := (hb.block Bl (blk_lt hbl)).trans hbl
  replace hbh := (hb.block Bh (blk_lt hbh)).trans hbh
  clear hb
  refine callsIn_wide.2 ((callsIn_wide (n := 4)).1 ?_)
  refine callsIn_of_wp_marks Tryd.func45 rfl trivial ?_ rfl
  simp only [Tryd.ntmps45, List.size_toArray, List.length_cons, List.length_nil, Nat.reduceAdd, Nat.reduceSub, Array.replicate_succ, Array.replicate_zero, List.push_toArray, List.append_toArray, List.nil_append, List.cons_append]
  have kW0 := Kp.alloc W (.cells #[.func (.yield l) #[] #[]] 90) Nu
  have k1 := cell1 ((kW0.block Bl (blk_lt hbl) (fun h => h)).trans hbl)
  have k2 := cell1 ((kW0.block Bh (blk_lt hbh) (fun h => h)).trans hbh)
  have h0' : J [] (W.alloc (.cells #[.func (.yield l) #[] #[]] 90)) := hJ [] W _ none h0 (grown_nu kW0) (fun r e => by cases e)
  have H0 := hide h0'
  clear kW0 hY h0 hJ hJx h0'
  gi_wp2
  refine ⟨.tuple #[], ?_, ⟨_, rfl⟩, .inl ⟨_, rfl, H0.out⟩⟩
  simp [results, Tryd.results45, go_sem]
end Go.Proofs.YtffcnonhhfhlhaaDoor.Rg
namespace Go.Proofs.YtffcnonhhfhlhaaDoor.It
open Go.RowKit Go.Shelf
set_option linter.unusedVariables false

section
variable {P : Program} {α : Type}
/-- a range over a func inside a round of loop l₀ -/
theorem range_qN {g : Operand} {ps : Array Tmp} {assign body : Code} {Q : Exit → Act → World → Prop} {a : Act} {w : World} {n : Nat}
    {l₀ : Nat} {r₀ : Loop} (hl₀ : w.heap[l₀]? = some (.loop r₀)) (h1 : 1 ≤ n)
    {gf : Nat} {lb : Array Value} (hg : a.eval g = .func (.func gf) #[] lb) (eg : ∀ args w, (callFunc gf args).run P w = .ok (.enter gf args) w)
    {encs : α → Array Value} {K : Nat → TypeId → Prop} {S Sp : List α → Prop} {N : Nat} {w0 : World} (hseq : SeqQ P gf lb encs K S Sp N w0) (hb0 : Below w0.heap.size w0 w) (hps : ∀ x, (encs x).size = ps.size)
    (I : List α → World → Prop) (Ix : Code → List α → World → Prop) (hI : OwnFrom w.heap.size I) (hIx : ∀ c, OwnFrom w.heap.size (Ix c)) (h0 : I [] w)
    (Ax : α → Act → World → Prop) (hAx : ∀ x a', OwnFrom w.heap.size (fun (_ : Unit) W => Ax x a' W))
    (hassign : ∀ (l : Nat) (pre : List α) (x : α) (W : World) (R : Act → World → Prop), I pre W → (∀ a' W', KeepsFrom w.heap.size W W' → Kc K W W' → I pre W' → Ax x a' W' → R a' W') →
      assign.wpIn (Fence.wide.inRound l) (n - 1 - 1) P (Exit.then R (fun _ _ _ => False)) { tmps := (ps.zip (encs x)).foldl (fun t (p, v) => t.setIfInBounds p v) a.tmps, defers := [] } W)
    (hbody : ∀ (l : Nat) (pre : List α) (x : α) (a' : Act) (W : World), w.heap.size ≤ l → (∃ r, W.heap[l]? = some (.loop r)) → I pre W → Ax x a' W → Sp (pre ++ [x]) → body.wpIn (Fence.wide.inRound l) (n - 1 - 1) P (ownPostG w.heap.size (Kc K) I Ix (pre ++ [x]) W) a' W)
    (hdone : ∀ (xs : List α) (W : World), S xs → I xs W → Q .normal a W)
    (hstop : ∀ (c : Code) (pre : List α) (W : World), Sp pre → Ix c pre W → c.wpIn (Fence.wide.inRound l₀) n P Q a W) :
    (Code.rangeFunc g ps assign body).wpIn (Fence.wide.inRound l₀) n P Q a w := by
  refine wpIn_rangeFunc fun fn hfn => ?_
  obtain ⟨B, hB⟩ : ∃ B, w.heap.size = B := ⟨_, rfl⟩
  obtain ⟨R, hR⟩ : ∃ R : LoopState → Option Code → Loop, R = recd fn a.tmps ps assign body r₀.defers := ⟨_, rfl⟩
  obtain ⟨V, hV⟩ : ∃ V, w.alloc (.loop (R .ready none)) = V := ⟨_, rfl⟩
  have hVs : V.heap.size = B + 1 := by rw [← hV]; simp [hB]
  have hVl : V.heap[B]? = some (.loop (R .ready none)) := by rw [← hV, ← hB]; exact World.alloc_heap_new w _
  have hVb : Below w0.heap.size w0 V := by rw [← hV]; exact hb0.alloc hb0.size _
  have hVI : I [] V := by rw [← hV]; exact hI.alloc _ h0
  rw [hB] at hI hIx hAx hassign hbody
  refine ⟨B, [], V, { target := .fn (.func gf) lb, args := #[.func (.yield B) #[] #[]] }, V, gf, #[.func (.yield B) #[] #[]] ++ lb, V, ?_, ?_, fun _ _ => trivial, ?_, fun _ => h1, ?_⟩
  · have := run_enterLoop_inner (P := P) hl₀ fn a.tmps ps assign body
    rw [hB] at this
    rw [← hV, hR]
    exact this
  · simp only [resolve, hg]
    simp [go_sem]
  · simp [invoke, go_sem, eg]
  have turnI : OwnFrom V.heap.size (fun pre W => I pre W ∧ W.heap[B]? = some (.loop (R .ready none))) := fun s X Y row hs hgr hr =>
    ⟨own_turn hI (by omega) s X Y row hs.1 hgr hr, own_block (by omega) () X Y row hs.2 hgr hr⟩
  have turnX : OwnFrom V.heap.size (fun pre W => ∃ c, Ix c pre W ∧ W.heap[B]? = some (.loop (R .done (some c)))) := fun s X Y row hs hgr hr => by
    obtain ⟨c, h1, h2⟩ := hs
    exact ⟨c, own_turn (hIx c) (by omega) s X Y row h1 hgr hr, own_block (by omega) () X Y row h2 hgr hr⟩
  refine (CallsIn.inRound l₀ (hseq (n - 1) B _ _ V hVb turnI turnX ?_ ⟨hVI, hVl⟩)).mono ?_
  · rintro pre x W ⟨hi, hl⟩ hlen m
    refine deep (m := n - 1 - 1) m ?_
    have hy := run_yield (P := P) (args := encs x) hl (by rw [hR]; exact hps x)
    rw [hR] at hy
    refine ⟨fn, _, assign, body, hy, roundIn_of_wpIn hfn (hassign _ pre x W _ hi ?_)⟩
    clear hy
    intro a' W' kf kc hi' hax
    have hl' := kf.same _ _ (Nat.le_refl _) hl rfl
    have hlt : B < W'.heap.size := (Array.getElem?_eq_some_iff.1 hl').1
    refine ⟨_, run_beginRound hl' (by rw [hR]), ?_⟩
    obtain ⟨X, hX⟩ : ∃ X, W'.putObj B (.loop { R .ready none with state := .busy }) = X := ⟨_, rfl⟩
    have xl : X.heap[B]? = some (.loop { R .ready none with state := .busy }) := by rw [← hX]; exact World.putObj_heap_same hlt
    have xc : Kc K W' X := by rw [← hX]; exact Kc.put _ _ _ _ hl' rfl
    have xs : ∀ k, k ≠ B → X.heap[k]? = W'.heap[k]? := fun k hk => by rw [← hX]; exact World.putObj_heap_other hk
    have xz : X.heap.size = W'.heap.size := by rw [← hX]; simp
    have xi : I pre X := by rw [← hX]; exact hI.putObj _ hi' (Nat.le_refl _) hl' rfl
    have xa : Ax x a' X := by rw [← hX]; exact (hAx x a').putObj (s := ()) _ hax (Nat.le_refl _) hl' rfl
    rw [hX]
    refine wpIn_mono (hbody _ pre x a' X (Nat.le_refl _) ⟨_, xl⟩ xi xa hlen) ?_
    have fin : ∀ (jump : Option Code) (Y : World), KeepsFrom B X Y → ∃ Z, Y.putObj B (.loop (R (if jump.isNone then .ready else .done) jump)) = Z ∧ (Instr.endRound B jump).run P Y = .ok (.bool jump.isNone) Z ∧ Y.heap[B]? = some (.loop { R .ready none with state := .busy }) ∧
        Z.heap[B]? = some (.loop (R (if jump.isNone then .ready else .done) jump)) ∧ KeepsFrom V.heap.size W Z := fun jump Y ky => by
      have yl := ky.same _ _ (Nat.le_refl _) xl rfl
      have h1 := run_endRound (P := P) jump yl
      refine ⟨_, rfl, ?_, yl, World.putObj_heap_same (Array.getElem?_eq_some_iff.1 yl).1, ?_⟩
      · rw [hR] at h1 ⊢; exact h1
      · refine ⟨?_, fun k o hk h2 ho => ?_⟩
        · have := kf.size; have := ky.size; simp; omega
        · have h3 := kf.same k o (by omega) h2 ho
          have h4 := ky.same k o (by omega) ((xs k (by omega)).trans h3) ho
          exact (World.putObj_heap_other (by omega)).trans h4
    rintro e a3 Y hp
    cases e with
    | normal =>
      obtain ⟨ky, kyc, yi⟩ := hp
      obtain ⟨Z, hZ, hr, yl, zl, kz⟩ := fin none Y ky
      exact ⟨_, Z, hr, kz, .inl ⟨rfl, ⟨by rw [← hZ]; exact hI.putObj _ yi (Nat.le_refl _) yl rfl, zl⟩, ((kc.trans xc).trans kyc).trans (by rw [← hZ]; exact Kc.put _ _ _ _ yl rfl)⟩⟩
    | ret =>
      obtain ⟨ky, yi⟩ := hp
      obtain ⟨Z, hZ, hr, yl, zl, kz⟩ := fin (some .ret) Y ky
      exact ⟨_, Z, hr, kz, .inr ⟨rfl, .ret, by rw [← hZ]; exact (hIx _).putObj _ yi (Nat.le_refl _) yl rfl, zl⟩⟩
    | exit id =>
      obtain ⟨ky, yi⟩ := hp
      obtain ⟨Z, hZ, hr, yl, zl, kz⟩ := fin (some (.exit id)) Y ky
      exact ⟨_, Z, hr, kz, .inr ⟨rfl, .exit id, by rw [← hZ]; exact (hIx _).putObj _ yi (Nat.le_refl _) yl rfl, zl⟩⟩
    | goto t =>
      obtain ⟨ky, yi⟩ := hp
      obtain ⟨Z, hZ, hr, yl, zl, kz⟩ := fin (some (.goto t)) Y ky
      exact ⟨_, Z, hr, kz, .inr ⟨rfl, .goto t, by rw [← hZ]; exact (hIx _).putObj _ yi (Nat.le_refl _) yl rfl, zl⟩⟩
    | panic ch => exact hp.elim
    | outgrown => exact hp.elim
  · rintro e X ⟨⟨v, rfl⟩, (⟨xs, hS, hi, hl⟩ | ⟨pre, hSp, c, hi, hl⟩)⟩
    · exact ⟨none, _, by have := run_endLoop (P := P) hl (by rw [hR]; simp); rw [hR] at this; exact this, hdone xs _ hS (hI.putObj _ hi (Nat.le_refl _) hl rfl)⟩
    · exact ⟨some c, _, by have := run_endLoop (P := P) hl (by rw [hR]; simp); rw [hR] at this; exact this, hstop c pre _ hSp ((hIx c).putObj _ hi (Nat.le_refl _) hl rfl)⟩
end
end Go.Proofs.YtffcnonhhfhlhaaDoor.It
