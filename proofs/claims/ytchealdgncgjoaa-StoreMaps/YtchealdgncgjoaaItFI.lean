import Derived.Test.YtchealdgncgjoaaPq
import Derived.Test.YtchealdgncgjoaaItEI
namespace Go.Proofs.Ytchealdgncgjoaa.It
open Go.RowKit Go.Shelf
set_option linter.unusedVariables false

/-- a sequence that may itself go through another one: the caller's word stands whatever of the sequence's own blocks turns -/
def SeqQ {α : Type} (P : Program) (g : Nat) (lb : Array Value) (encs : α → Array Value) (K : Nat → TypeId → Prop) (S Sp : List α → Prop) (N : Nat) (w : World) : Prop :=
  ∀ (n l : Nat) (J Jx : List α → World → Prop) (W : World), Below w.heap.size w W → OwnFrom W.heap.size J → OwnFrom W.heap.size Jx →
    (∀ pre x W1, J pre W1 → Sp (pre ++ [x]) → ∀ m, YieldAt Fence.wide m P l (encs x) W1 fun e W' => KeepsFrom W.heap.size W1 W' ∧
      ((e = .returned (.bool true) ∧ J (pre ++ [x]) W' ∧ Kc K W1 W') ∨ (e = .returned (.bool false) ∧ Jx (pre ++ [x]) W'))) →
    J [] W →
    CallsIn Fence.wide n P g (#[.func (.yield l) #[] #[]] ++ lb) W fun e W' => (∃ v, e = .returned v) ∧ ((∃ xs, S xs ∧ J xs W') ∨ (∃ pre, Sp pre ∧ Jx pre W'))

section
variable {P : Program} {α : Type}
theorem range_q {g : Operand} {ps : Array Tmp} {assign body : Code} {Q : Exit → Act → World → Prop} {a : Act} {w : World} {n : Nat}
    {gf : Nat} {lb : Array Value} (hg : a.eval g = .func (.func gf) #[] lb) (eg : ∀ args w, (callFunc gf args).run P w = .ok (.enter gf args) w)
    {encs : α → Array Value} {K : Nat → TypeId → Prop} {S Sp : List α → Prop} {N : Nat} {w0 : World} (hseq : SeqQ P gf lb encs K S Sp N w0) (hb0 : Below w0.heap.size w0 w) (hps : ∀ x, (encs x).size = ps.size)
    (I : List α → World → Prop) (Ix : Code → List α → World → Prop) (hI : OwnFrom w.heap.size I) (hIx : ∀ c, OwnFrom w.heap.size (Ix c)) (h0 : I [] w)
    (Ax : α → Act → World → Prop) (hAx : ∀ x a', OwnFrom w.heap.size (fun (_ : Unit) W => Ax x a' W))
    (hassign : ∀ (l : Nat) (pre : List α) (x : α) (W : World) (R : Act → World → Prop), I pre W → (∀ a' W', KeepsFrom w.heap.size W W' → Kc K W W' → I pre W' → Ax x a' W' → R a' W') →
      assign.wpIn (Fence.wide.inRound l) (n - 1 - 1) P (Exit.then R (fun _ _ _ => False)) { tmps := (ps.zip (encs x)).foldl (fun t (p, v) => t.setIfInBounds p v) a.tmps, defers := [] } W)
    (hbody : ∀ (l : Nat) (pre : List α) (x : α) (a' : Act) (W : World), w.heap.size ≤ l → (∃ r, W.heap[l]? = some (.loop r)) → I pre W → Ax x a' W → Sp (pre ++ [x]) → body.wpIn (Fence.wide.inRound l) (n - 1 - 1) P (ownPostG w.heap.size (Kc K) I Ix (pre ++ [x]) W) a' W)
    (hdone : ∀ (D : Nat) (xs : List α) (W : World), w.heap.size ≤ D → S xs → I xs W → W.heap[D]? = some (.deferred (some [])) → Q .normal { a with defers := { target := .collected D, args := #[] } :: a.defers } W)
    (hstop : ∀ (D : Nat) (c : Code) (pre : List α) (W : World), w.heap.size ≤ D → Sp pre → Ix c pre W → W.heap[D]? = some (.deferred (some [])) → c.wpIn Fence.wide n P Q { a with defers := { target := .collected D, args := #[] } :: a.defers } W) :
    (Code.rangeFunc g ps assign body).wpIn Fence.wide n P Q a w := by
  refine wpIn_rangeFunc fun fn hfn => ?_
  obtain ⟨B, hB⟩ : ∃ B, w.heap.size = B := ⟨_, rfl⟩
  obtain ⟨R, hR⟩ : ∃ R : LoopState → Option Code → Loop, R = recd fn a.tmps ps assign body B := ⟨_, rfl⟩
  obtain ⟨V, hV⟩ : ∃ V, (w.alloc (.deferred (some []))).alloc (.loop (R .ready none)) = V := ⟨_, rfl⟩
  have hVs : V.heap.size = B + 2 := by rw [← hV]; simp [hB]
  have hVl : V.heap[B + 1]? = some (.loop (R .ready none)) := by
    have := World.alloc_heap_new (w.alloc (.deferred (some []))) (.loop (R .ready none))
    rw [World.size_alloc, hB, hV] at this; exact this
  have hVd : V.heap[B]? = some (.deferred (some [])) := by
    rw [← hV, ← hB]; exact (Below.heap_alloc _ _ _ (by simp)).trans (World.alloc_heap_new w _)
  have hVb : Below w0.heap.size w0 V := by
    rw [← hV]; exact (hb0.alloc hb0.size _).alloc (by have := hb0.size; simp; omega) _
  have hVI : I [] V := by rw [← hV]; exact hI.alloc _ (hI.alloc _ h0)
  rw [hB] at hI hIx hAx hassign hbody hdone hstop
  refine ⟨B + 1, [{ target := .collected B, args := #[] }], V, { target := .fn (.func gf) lb, args := #[.func (.yield (B + 1)) #[] #[]] }, V, gf, #[.func (.yield (B + 1)) #[] #[]] ++ lb, V, ?_, ?_, fun _ _ => trivial, ?_, fun h => (by cases h), ?_⟩
  · have := run_enterLoop_outer (P := P) (w := w) fn a.tmps ps assign body
    rw [hB] at this
    rw [← hV, hR]
    exact this
  · simp only [resolve, hg]
    simp [go_sem]
  · simp [invoke, go_sem, eg]
  have turnI : OwnFrom V.heap.size (fun pre W => I pre W ∧ W.heap[B + 1]? = some (.loop (R .ready none)) ∧ W.heap[B]? = some (.deferred (some []))) := fun s X Y row hs hgr hr =>
    ⟨own_turn hI (by omega) s X Y row hs.1 hgr hr, own_block (by omega) () X Y row hs.2.1 hgr hr, own_block (by omega) () X Y row hs.2.2 hgr hr⟩
  have turnX : OwnFrom V.heap.size (fun pre W => ∃ c, Ix c pre W ∧ W.heap[B + 1]? = some (.loop (R .done (some c))) ∧ W.heap[B]? = some (.deferred (some []))) := fun s X Y row hs hgr hr => by
    obtain ⟨c, h1, h2, h3⟩ := hs
    exact ⟨c, own_turn (hIx c) (by omega) s X Y row h1 hgr hr, own_block (by omega) () X Y row h2 hgr hr, own_block (by omega) () X Y row h3 hgr hr⟩
  refine (hseq (n - 1) (B + 1) _ _ V hVb turnI turnX ?_ ⟨hVI, hVl, hVd⟩).mono ?_
  · rintro pre x W ⟨hi, hl, hd⟩ hlen m
    refine deep (m := n - 1 - 1) m ?_
    have hy := run_yield (P := P) (args := encs x) hl (by rw [hR]; exact hps x)
    rw [hR] at hy
    refine ⟨fn, _, assign, body, hy, roundIn_of_wpIn hfn (hassign _ pre x W _ hi ?_)⟩
    clear hy
    intro a' W' kf kc hi' hax
    have hl' := kf.same _ _ (by omega) hl rfl
    have hd' := kf.same _ _ (Nat.le_refl _) hd rfl
    have hlt : B + 1 < W'.heap.size := (Array.getElem?_eq_some_iff.1 hl').1
    refine ⟨_, run_beginRound hl' (by rw [hR]), ?_⟩
    obtain ⟨X, hX⟩ : ∃ X, W'.putObj (B + 1) (.loop { R .ready none with state := .busy }) = X := ⟨_, rfl⟩
    have xl : X.heap[B + 1]? = some (.loop { R .ready none with state := .busy }) := by rw [← hX]; exact World.putObj_heap_same hlt
    have xd : X.heap[B]? = some (.deferred (some [])) := by rw [← hX]; exact (World.putObj_heap_other (by omega)).trans hd'
    have xc : Kc K W' X := by rw [← hX]; exact Kc.put _ _ _ _ hl' rfl
    have xs : ∀ k, k ≠ B + 1 → X.heap[k]? = W'.heap[k]? := fun k hk => by rw [← hX]; exact World.putObj_heap_other hk
    have xz : X.heap.size = W'.heap.size := by rw [← hX]; simp
    have xi : I pre X := by rw [← hX]; exact hI.putObj _ hi' (by omega) hl' rfl
    have xa : Ax x a' X := by rw [← hX]; exact (hAx x a').putObj (s := ()) _ hax (by omega) hl' rfl
    rw [hX]
    refine wpIn_mono (hbody _ pre x a' X (by omega) ⟨_, xl⟩ xi xa hlen) ?_
    have fin : ∀ (jump : Option Code) (Y : World), KeepsFrom B X Y → ∃ Z, Y.putObj (B + 1) (.loop (R (if jump.isNone then .ready else .done) jump)) = Z ∧ (Instr.endRound (B + 1) jump).run P Y = .ok (.bool jump.isNone) Z ∧ Y.heap[B + 1]? = some (.loop { R .ready none with state := .busy }) ∧
        Z.heap[B + 1]? = some (.loop (R (if jump.isNone then .ready else .done) jump)) ∧ Z.heap[B]? = some (.deferred (some [])) ∧ KeepsFrom V.heap.size W Z := fun jump Y ky => by
      have yl := ky.same _ _ (by omega) xl rfl
      have h1 := run_endRound (P := P) jump yl
      refine ⟨_, rfl, ?_, yl, World.putObj_heap_same (Array.getElem?_eq_some_iff.1 yl).1, (World.putObj_heap_other (by omega)).trans (ky.same _ _ (Nat.le_refl _) xd rfl), ?_⟩
      · rw [hR] at h1 ⊢; exact h1
      · refine ⟨?_, fun k o hk h2 ho => ?_⟩
        · have := kf.size; have := ky.size; simp; omega
        · have h3 := kf.same k o (by omega) h2 ho
          have h4 := ky.same k o (by omega) ((xs k (by omega)).trans h3) ho
          exact (World.putObj_heap_other (by omega)).trans h4
    rintro e a3 Y hp
    cases e with
    | normal =>
      obtain ⟨ky, kyc, yi⟩ := hp
      obtain ⟨Z, hZ, hr, yl, zl, zd, kz⟩ := fin none Y ky
      exact ⟨_, Z, hr, kz, .inl ⟨rfl, ⟨by rw [← hZ]; exact hI.putObj _ yi (by omega) yl rfl, zl, zd⟩, ((kc.trans xc).trans kyc).trans (by rw [← hZ]; exact Kc.put _ _ _ _ yl rfl)⟩⟩
    | ret =>
      obtain ⟨ky, yi⟩ := hp
      obtain ⟨Z, hZ, hr, yl, zl, zd, kz⟩ := fin (some .ret) Y ky
      exact ⟨_, Z, hr, kz, .inr ⟨rfl, .ret, by rw [← hZ]; exact (hIx _).putObj _ yi (by omega) yl rfl, zl, zd⟩⟩
    | exit id =>
      obtain ⟨ky, yi⟩ := hp
      obtain ⟨Z, hZ, hr, yl, zl, zd, kz⟩ := fin (some (.exit id)) Y ky
      exact ⟨_, Z, hr, kz, .inr ⟨rfl, .exit id, by rw [← hZ]; exact (hIx _).putObj _ yi (by omega) yl rfl, zl, zd⟩⟩
    | goto t =>
      obtain ⟨ky, yi⟩ := hp
      obtain ⟨Z, hZ, hr, yl, zl, zd, kz⟩ := fin (some (.goto t)) Y ky
      exact ⟨_, Z, hr, kz, .inr ⟨rfl, .goto t, by rw [← hZ]; exact (hIx _).putObj _ yi (by omega) yl rfl, zl, zd⟩⟩
    | panic ch => exact hp.elim
    | outgrown => exact hp.elim
  · rintro e X ⟨⟨v, rfl⟩, (⟨xs, hS, hi, hl, hk⟩ | ⟨pre, hSp, c, hi, hl, hk⟩)⟩
    · exact ⟨none, _, by have := run_endLoop (P := P) hl (by rw [hR]; simp); rw [hR] at this; exact this, hdone _ xs _ (Nat.le_refl _) hS (hI.putObj _ hi (by omega) hl rfl) ((World.putObj_heap_other (by omega)).trans hk)⟩
    · exact ⟨some c, _, by have := run_endLoop (P := P) hl (by rw [hR]; simp); rw [hR] at this; exact this, hstop _ c pre _ (Nat.le_refl _) hSp ((hIx c).putObj _ hi (by omega) hl rfl) ((World.putObj_heap_other (by omega)).trans hk)⟩
end
end Go.Proofs.Ytchealdgncgjoaa.It
namespace Go.Proofs.Ytchealdgncgjoaa.StI
open Go.RowKit Go.Proofs.Ytchealdgncgjoaa.St Go.Shelf Go.Sort Go.Proofs.Ytchealdgncgjoaa.It
attribute [local go_sem] Oper.semAt_some
set_option linter.unusedVariables false
section
variable {J Jx : List (Int × Int) → World → Prop} {l mb : Nat} {t : T (Int × Int)}
theorem drw_of {B : Nat} (h : OwnFrom B J) : Drw J := fun pre W hj => h pre W W.drew none hj (grown_nu (Kp.refl Nu W).drew) (fun r e => by cases e)
theorem own_nu {B : Nat} (h : OwnFrom B J) {pre : List (Int × Int)} {W W' : World} (hj : J pre W) (k : Kp Nu W W') : J pre W' := h pre W W' none hj (grown_nu k) (fun r e => by cases e)

set_option maxRecDepth 100000 in
set_option maxHeartbeats 1000000 in
theorem tell_in {W : World} {r0 : Nat} (h1 : W.heap[mb]? = some (.cells #[.func (.func 76) #[] #[], .pointer (some ⟨r0, 0, none⟩)] 130 (0, 0))) (h2 : Tr W t (some ⟨r0, 0, none⟩)) (i j : Int) (hs : t.sz < 2 ^ 61) (hi0 : 0 ≤ i) (hi1 : i < 2 ^ 62) (hj0 : 0 ≤ j) (hj1 : j < 2 ^ 62)
    {B : Nat} (hJ : OwnFrom B J) (hY : Rnd J Jx (seg t i j) mb l) (h0 : J [] W) (n : Nat) :
    CallsIn Fence.wide n Try.prog 84 #[.pointer (some ⟨mb, 0, none⟩), .pointer (some ⟨r0, 0, none⟩), .int .i64 i, .int .i64 j, .func (.yield l) #[] #[]] W fun e W' => (∃ v, e = .returned v) ∧ (J (seg t i j) W' ∨ ∃ q, q <+: seg t i j ∧ Jx q W') := by
  have ka := Kp.alloc W (.cells #[.pointer (some ⟨mb, 0, none⟩)] 22) Nu
  have kb := ka.andAlloc (.cells #[.pointer (some ⟨r0, 0, none⟩)] 128)
  have kc := kb.andAlloc (.cells #[.func (.yield l) #[] #[]] 31)
  have x1 : (((W.alloc (.cells #[.pointer (some ⟨mb, 0, none⟩)] 22)).alloc (.cells #[.pointer (some ⟨r0, 0, none⟩)] 128)).alloc (.cells #[.func (.yield l) #[] #[]] 31)).heap[W.heap.size]? = some (.cells #[.pointer (some ⟨mb, 0, none⟩)] 22 (0, 0)) :=
    (Below.heap_alloc _ _ _ (by simp; omega)).trans ((Below.heap_alloc _ _ _ (by simp)).trans (heap_alloc_new W _))
  have x2 : (((W.alloc (.cells #[.pointer (some ⟨mb, 0, none⟩)] 22)).alloc (.cells #[.pointer (some ⟨r0, 0, none⟩)] 128)).alloc (.cells #[.func (.yield l) #[] #[]] 31)).heap[W.heap.size + 1]? = some (.cells #[.pointer (some ⟨r0, 0, none⟩)] 128 (0, 0)) :=
    (Below.heap_alloc _ _ _ (by simp)).trans (by have := heap_alloc_new (W.alloc (.cells #[.pointer (some ⟨mb, 0, none⟩)] 22)) (.cells #[.pointer (some ⟨r0, 0, none⟩)] 128); simpa using this)
  have x3 : (((W.alloc (.cells #[.pointer (some ⟨mb, 0, none⟩)] 22)).alloc (.cells #[.pointer (some ⟨r0, 0, none⟩)] 128)).alloc (.cells #[.func (.yield l) #[] #[]] 31)).heap[W.heap.size + 1 + 1]? = some (.cells #[.func (.yield l) #[] #[]] 31 (0, 0)) := by
    have := heap_alloc_new ((W.alloc (.cells #[.pointer (some ⟨mb, 0, none⟩)] 22)).alloc (.cells #[.pointer (some ⟨r0, 0, none⟩)] 128)) (.cells #[.func (.yield l) #[] #[]] 31)
    simpa using this
  have hE : Ev (((W.alloc (.cells #[.pointer (some ⟨mb, 0, none⟩)] 22)).alloc (.cells #[.pointer (some ⟨r0, 0, none⟩)] 128)).alloc (.cells #[.func (.yield l) #[] #[]] 31)) mb W.heap.size (W.heap.size + 1) (W.heap.size + 1 + 1) l t r0 :=
    ⟨x1, x2, x3, (kc.block _ (blk_lt h1) (fun h => h)).trans h1, h2.nu kc⟩
  have WI := walk_in hY (drw_of hJ) t (n - 1) [] (some ⟨r0, 0, none⟩) i j _ (h2.nu kc) hE (own_nu hJ h0 kc) (by simp) (by omega) (by omega) hi1 (by omega) hj1
  have c2 := cell1 x2
  clear hE x1 x2 x3 ka kb kc h1 h2 hY hJ h0 hs hi0 hi1 hj0 hj1
  refine callsIn_of_wp Try.func84 rfl trivial ?_ rfl
  simp only [Try.ntmps84, List.size_toArray, List.length_cons, List.length_nil, Nat.reduceAdd, Nat.reduceSub, Array.replicate_succ, Array.replicate_zero, List.push_toArray, List.append_toArray, List.nil_append, List.cons_append]
  gi_wp2_with fail
  refine ⟨trivial, fun h => (by cases h), WI.mono ?_⟩
  rintro e V (⟨rfl, hj, k⟩ | ⟨rfl, q, hq, hx⟩)
  · have HF : Hid (J (seg t i j) V) := by show J (seg t i j) V; simpa using hj
    clear hj WI
    gi_wp2
    go_end0
    exact ⟨⟨_, rfl⟩, .inl HF.out⟩
  · have HF : Hid (∃ q, q <+: seg t i j ∧ Jx q V) := ⟨q, hq, hx⟩
    clear hq hx WI
    gi_wp2
    go_end0
    exact ⟨⟨_, rfl⟩, .inr HF.out⟩
set_option maxRecDepth 100000 in
set_option maxHeartbeats 400000 in
theorem walk_empty (w : World) (i j : Int) (f : Value) : Calls Try.prog 153 #[.pointer none, .int .i64 i, .int .i64 j, f] w fun e w' => e = .returned (.bool true) ∧ w' = w := by
  go_enter Try.func153, Try.ntmps153
  go_wp2_with fail
  go_ret
  exact ⟨rfl, rfl⟩
set_option maxRecDepth 100000 in
set_option maxHeartbeats 400000 in
theorem tell_empty (w : World) (m : Option Addr) (i j : Int) (l : Nat) : Calls Try.prog 84 #[.pointer m, .pointer none, .int .i64 i, .int .i64 j, .func (.yield l) #[] #[]] w fun e w' => (∃ v, e = .returned v) ∧ Kp Nu w w' := by
  have WN := fun W f => walk_empty W i j f
  have HK := hide (((Kp.alloc w (.cells #[.pointer m] 22) Nu).andAlloc (.cells #[.pointer none] 128)).andAlloc (.cells #[.func (.yield l) #[] #[]] 31))
  go_enter Try.func84, Try.ntmps84
  go_wp2_with (go_at_call 153; refine (WN _ _).mono ?_; rintro e w' ⟨rfl, hw⟩; obtain rfl := hw.symm)
  go_end0
  exact ⟨⟨_, rfl⟩, HK.out⟩
/-- tell, whatever the tree -/
theorem tell_all {W : World} {a : Option Addr} (h1 : W.heap[mb]? = some (.cells #[.func (.func 76) #[] #[], .pointer a] 130 (0, 0))) (h2 : Tr W t a) (i j : Int) (hs : t.sz < 2 ^ 61) (hi0 : 0 ≤ i) (hi1 : i < 2 ^ 62) (hj0 : 0 ≤ j) (hj1 : j < 2 ^ 62)
    {B : Nat} (hJ : OwnFrom B J) (hY : Rnd J Jx (seg t i j) mb l) (h0 : J [] W) (n : Nat) :
    CallsIn Fence.wide n Try.prog 84 #[.pointer (some ⟨mb, 0, none⟩), .pointer a, .int .i64 i, .int .i64 j, .func (.yield l) #[] #[]] W fun e W' => (∃ v, e = .returned v) ∧ (J (seg t i j) W' ∨ ∃ q, q <+: seg t i j ∧ Jx q W') := by
  cases t with
  | nil =>
    cases (show a = none from h2)
    refine (callsIn_wide.2 (tell_empty W (some ⟨mb, 0, none⟩) i j l)).mono ?_
    rintro e W' ⟨hv, hk⟩
    exact ⟨hv, .inl (own_nu hJ h0 hk)⟩
  | node x p y =>
    have h3 := h2
    obtain ⟨r0, _, _, e, _⟩ := h3
    subst e
    exact tell_in h1 h2 i j hs hi0 hi1 hj0 hj1 hJ hY h0 n
end
--IF All1
set_option maxRecDepth 100000 in
set_option maxHeartbeats 1000000 in
theorem all_q {w : World} {mb bx : Nat} {t : T (Int × Int)} (hm : Mp w mb t) (hb : w.heap[bx]? = some (.cells #[.pointer (some ⟨mb, 0, none⟩)] 22 (0, 0))) (hs : t.sz < 2 ^ 61) :
    SeqQ Try.prog 82 #[.pointer (some ⟨bx, 0, none⟩)] (fun x : Int × Int => #[.int .i64 (x.1), .int .i64 (x.2)]) (KM mb) (fun ys => ys = t.xs) (fun pre => pre <+: t.xs) t.sz w := fun n l J Jx W hW hJ hJx hY h0 => by
  have mixed : Try.prog.follows .mixedOrders = true := by kernel_rfl
  obtain ⟨a, h1, h2⟩ := hm.ex
  have g1 := (hW.block mb (blk_lt h1)).trans h1
  have gb := (hW.block bx (blk_lt hb)).trans hb
  have g2 : Tr W t a := h2.keep (fun b c e => (hW.block b (blk_lt e)).trans e)
  have eseg : seg t 0 (t.sz : Int) = t.xs := by
    rw [seg_xs]; simp; rw [← T.xs_length]; exact List.take_length
  have TA := tree_any g1
  have CO : Calls Try.prog 85 #[.pointer a] W.drew fun e w' => e = .returned (.int .i64 (t.sz : Int)) ∧ w' = W.drew := count_any (g2.nu (Kp.refl Nu W).drew)
  have TE := tell_all (J := J) (Jx := Jx) (l := l) (W := W.drew) g1 (g2.nu (Kp.refl Nu W).drew) 0 (t.sz : Int) hs (by omega) (by omega) (by omega) (by omega) hJ
    (by rw [eseg]; exact fun pre x W1 hj hp m => by
          obtain ⟨fn, tmps, assign, body, hy, hR⟩ := hY pre x W1 hj hp m
          exact ⟨fn, tmps, assign, body, hy, hR.mono fun e W' hh => hh.2⟩) (own_nu hJ h0 (Kp.refl Nu W).drew) (n - 1)
  rw [eseg] at TE
  have c0 := cell1 gb
  have c1 : W.drew.cell? ⟨bx, 0, none⟩ = some (.pointer (some ⟨mb, 0, none⟩)) := c0
  clear hW hJ hJx hY h0 h1 h2 g1 gb g2 hb hm eseg
  refine callsIn_of_wp Try.func82 rfl trivial ?_ rfl
  simp only [Try.ntmps82, List.size_toArray, List.length_cons, List.length_nil, Nat.reduceAdd, Nat.reduceSub, Array.replicate_succ, Array.replicate_zero, List.push_toArray, List.append_toArray, List.nil_append, List.cons_append]
  gi_wp2_with fail
  refine ⟨trivial, fun h => (by cases h), (callsIn_wide.2 TA).mono ?_⟩
  rintro e w' ⟨rfl, hw⟩; obtain rfl := hw.symm
  gi_wp2_with fail
  gi_region_with_o (first
    | (refine ⟨trivial, fun h => (by cases h), (callsIn_wide.2 CO).mono ?_⟩; rintro e w' ⟨rfl, hw⟩; obtain rfl := hw.symm)
    | (refine ⟨trivial, fun h => (by cases h), TE.mono ?_⟩; rintro e V ⟨⟨v, rfl⟩, hh⟩; have HH := hide hh; clear hh))
  all_goals gi_wp2
  all_goals go_end0
  all_goals (refine ⟨⟨_, rfl⟩, ?_⟩; rcases HH.out with h | ⟨q, hq, hx⟩)
  all_goals first | exact .inl ⟨_, rfl, h⟩ | exact .inr ⟨q, hq, hx⟩
--END
end Go.Proofs.Ytchealdgncgjoaa.StI
