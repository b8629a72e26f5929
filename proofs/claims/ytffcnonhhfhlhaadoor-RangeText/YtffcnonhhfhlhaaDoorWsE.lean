import Derived.Test.YtffcnonhhfhlhaaDoorItB
import Derived.Test.YtffcnonhhfhlhaaDoorWsC
namespace Go.Proofs.YtffcnonhhfhlhaaDoor.It
open Go.RowKit Go.Shelf
set_option linter.unusedVariables false
theorem set_other (W : World) (g : Nat) (v : Value) (k : Nat) (h : k ≠ g) : (W.setCell ⟨g, 0, none⟩ v).heap[k]? = W.heap[k]? := by
  have := (Rg.Kp.refl (fun q => q = g) W).andSet ⟨g, 0, none⟩ v (.inr rfl)
  rcases Nat.lt_or_ge k W.heap.size with h1 | h1
  · exact this.block k h1 h
  · rw [Array.getElem?_eq_none h1, Array.getElem?_eq_none (by simp; exact h1)]
/-- a sequence that may itself go through another one: the caller's word stands whatever of the sequence's own blocks turns -/
def SeqS {α : Type} (P : Program) (g : Nat) (lb : Array Value) (encs : α → Array Value) (K : Nat → TypeId → Prop) (S Sp : List α → Prop) (bs : Nat) (w : World) : Prop :=
  ∀ (n l : Nat) (J Jx : List α → World → Prop) (W : World), Below w.heap.size w W → OwnFrom W.heap.size J → OwnFrom W.heap.size Jx → (∀ pre W1 v u t, J pre W1 → W1.heap[bs]? = some (.cells #[u] t (0, 0)) → J pre (W1.setCell ⟨bs, 0, none⟩ v)) →
    (∀ pre x W1, J pre W1 → Sp (pre ++ [x]) → ∀ m, YieldAt Fence.wide m P l (encs x) W1 fun e W' => KeepsFrom W.heap.size W1 W' ∧
      ((e = .returned (.bool true) ∧ J (pre ++ [x]) W' ∧ Kc K W1 W') ∨ (e = .returned (.bool false) ∧ Jx (pre ++ [x]) W'))) →
    J [] W →
    CallsIn Fence.wide n P g (#[.func (.yield l) #[] #[]] ++ lb) W fun e W' => (∃ v, e = .returned v) ∧ ((∃ xs, S xs ∧ J xs W') ∨ (∃ pre, Sp pre ∧ Jx pre W'))

section
variable {P : Program} {α : Type}
theorem range_s {g : Operand} {ps : Array Tmp} {assign body : Code} {Q : Exit → Act → World → Prop} {a : Act} {w : World} {n : Nat}
    {gf : Nat} {lb : Array Value} (hg : a.eval g = .func (.func gf) #[] lb) (eg : ∀ args w, (callFunc gf args).run P w = .ok (.enter gf args) w)
    {encs : α → Array Value} {K : Nat → TypeId → Prop} {S Sp : List α → Prop} {bs : Nat} {w0 : World} (hseq : SeqS P gf lb encs K S Sp bs w0) (hb0 : Below w0.heap.size w0 w) (hps : ∀ x, (encs x).size = ps.size)
    (I : List α → World → Prop) (hIs : ∀ pre W1 v u t, I pre W1 → W1.heap[bs]? = some (.cells #[u] t (0, 0)) → I pre (W1.setCell ⟨bs, 0, none⟩ v)) (Ix : Code → List α → World → Prop) (hI : OwnFrom w.heap.size I) (hIx : ∀ c, OwnFrom w.heap.size (Ix c)) (h0 : I [] w)
    (Ax : α → Act → World → Prop) (hAx : ∀ x a', OwnFrom w.heap.size (fun (_ : Unit) W => Ax x a' W))
    (hassign : ∀ (l : Nat) (pre : List α) (x : α) (W : World) (R : Act → World → Prop), I pre W → (∀ a' W', KeepsFrom w.heap.size W W' → Kc K W W' → I pre W' → Ax x a' W' → R a' W') →
      assign.wpIn (Fence.wide.inRound l) (n - 1 - 1) P (Exit.then R (fun _ _ _ => False)) { tmps := (ps.zip (encs x)).foldl (fun t (p, v) => t.setIfInBounds p v) a.tmps, defers := [] } W)
    (hbody : ∀ (l : Nat) (pre : List α) (x : α) (a' : Act) (W : World), w.heap.size ≤ l → (∃ r, W.heap[l]? = some (.loop r)) → I pre W → Ax x a' W → Sp (pre ++ [x]) → body.wpIn (Fence.wide.inRound l) (n - 1 - 1) P (ownPostG w.heap.size (Kc K) I Ix (pre ++ [x]) W) a' W)
    (hdone : ∀ (D : Nat) (xs : List α) (W : World), w.heap.size ≤ D → S xs → I xs W → W.heap[D]? = some (.deferred (some [])) → Q .normal { a with defers := { target := .collected D, args := #[] } :: a.defers } W)
    (hstop : ∀ (D : Nat) (c : Code) (pre : List α) (W : World), w.heap.size ≤ D → Sp pre → Ix c pre W → W.heap[D]? = some (.deferred (some [])) → c.wpIn Fence.wide n P Q { a with defers := { target := .collected D, args := #[] } :: a.defers } W) :
    (Code.rangeFunc g ps assign body).wpIn Fence.wide n P Q a w := by
  refine wpIn_rangeFunc fun fn hfn => ?_
  obtain ⟨B, hB⟩ : ∃ B, w.heap.size = B := ⟨_, rfl⟩
  obtain ⟨R, hR⟩ : ∃ R : LoopState → Option Code → Loop, R = recd fn a.tmps ps assign body B := ⟨_, rfl⟩
  obtain ⟨V, hV⟩ : ∃ V, (w.alloc (.deferred (some []))).alloc (.loop (R .ready none)) = V := ⟨_, rfl⟩
  have hVs : V.heap.size = B + 2 := by rw [← hV]; simp [hB]
  have hVl : V.heap[B + 1]? = some (.loop (R .ready none)) := by
    have := World.alloc_heap_new (w.alloc (.deferred (some []))) (.loop (R .ready none))
    rw [World.size_alloc, hB, hV] at this; exact this
  have hVd : V.heap[B]? = some (.deferred (some [])) := by
    rw [← hV, ← hB]; exact (Below.heap_alloc _ _ _ (by simp)).trans (World.alloc_heap_new w _)
  have hVb : Below w0.heap.size w0 V := by
    rw [← hV]; exact (hb0.alloc hb0.size _).alloc (by have := hb0.size; simp; omega) _
  have hVI : I [] V := by rw [← hV]; exact hI.alloc _ (hI.alloc _ h0)
  rw [hB] at hI hIx hAx hassign hbody hdone hstop
  refine ⟨B + 1, [{ target := .collected B, args := #[] }], V, { target := .fn (.func gf) lb, args := #[.func (.yield (B + 1)) #[] #[]] }, V, gf, #[.func (.yield (B + 1)) #[] #[]] ++ lb, V, ?_, ?_, fun _ _ => trivial, ?_, fun h => (by cases h), ?_⟩
  · have := run_enterLoop_outer (P := P) (w := w) fn a.tmps ps assign body
    rw [hB] at this
    rw [← hV, hR]
    exact this
  · simp only [resolve, hg]
    simp [go_sem]
  · simp [invoke, go_sem, eg]
  have turnI : OwnFrom V.heap.size (fun pre W => I pre W ∧ W.heap[B + 1]? = some (.loop (R .ready none)) ∧ W.heap[B]? = some (.deferred (some []))) := fun s X Y row hs hgr hr =>
    ⟨own_turn hI (by omega) s X Y row hs.1 hgr hr, own_block (by omega) () X Y row hs.2.1 hgr hr, own_block (by omega) () X Y row hs.2.2 hgr hr⟩
  have turnX : OwnFrom V.heap.size (fun pre W => ∃ c, Ix c pre W ∧ W.heap[B + 1]? = some (.loop (R .done (some c))) ∧ W.heap[B]? = some (.deferred (some []))) := fun s X Y row hs hgr hr => by
    obtain ⟨c, h1, h2, h3⟩ := hs
    exact ⟨c, own_turn (hIx c) (by omega) s X Y row h1 hgr hr, own_block (by omega) () X Y row h2 hgr hr, own_block (by omega) () X Y row h3 hgr hr⟩
  have turnS : ∀ pre W1 v u t, (I pre W1 ∧ W1.heap[B + 1]? = some (.loop (R .ready none)) ∧ W1.heap[B]? = some (.deferred (some []))) → W1.heap[bs]? = some (.cells #[u] t (0, 0)) → (I pre (W1.setCell ⟨bs, 0, none⟩ v) ∧ (W1.setCell ⟨bs, 0, none⟩ v).heap[B + 1]? = some (.loop (R .ready none)) ∧ (W1.setCell ⟨bs, 0, none⟩ v).heap[B]? = some (.deferred (some []))) := fun pre W1 v u t h hb => by
    refine ⟨hIs pre W1 v u t h.1 hb, ?_, ?_⟩
    · exact (set_other W1 bs v (B + 1) (fun e => by rw [e] at h; rw [hb] at h; cases h.2.1)).trans h.2.1
    · exact (set_other W1 bs v B (fun e => by rw [e] at h; rw [hb] at h; cases h.2.2)).trans h.2.2
  refine (hseq (n - 1) (B + 1) _ _ V hVb turnI turnX turnS ?_ ⟨hVI, hVl, hVd⟩).mono ?_
  · rintro pre x W ⟨hi, hl, hd⟩ hlen m
    refine deep (m := n - 1 - 1) m ?_
    have hy := run_yield (P := P) (args := encs x) hl (by rw [hR]; exact hps x)
    rw [hR] at hy
    refine ⟨fn, _, assign, body, hy, roundIn_of_wpIn hfn (hassign _ pre x W _ hi ?_)⟩
    clear hy
    intro a' W' kf kc hi' hax
    have hl' := kf.same _ _ (by omega) hl rfl
    have hd' := kf.same _ _ (Nat.le_refl _) hd rfl
    have hlt : B + 1 < W'.heap.size := (Array.getElem?_eq_some_iff.1 hl').1
    refine ⟨_, run_beginRound hl' (by rw [hR]), ?_⟩
    obtain ⟨X, hX⟩ : ∃ X, W'.putObj (B + 1) (.loop { R .ready none with state := .busy }) = X := ⟨_, rfl⟩
    have xl : X.heap[B + 1]? = some (.loop { R .ready none with state := .busy }) := by rw [← hX]; exact World.putObj_heap_same hlt
    have xd : X.heap[B]? = some (.deferred (some [])) := by rw [← hX]; exact (World.putObj_heap_other (by omega)).trans hd'
    have xc : Kc K W' X := by rw [← hX]; exact Kc.put _ _ _ _ hl' rfl
    have xs : ∀ k, k ≠ B + 1 → X.heap[k]? = W'.heap[k]? := fun k hk => by rw [← hX]; exact World.putObj_heap_other hk
    have xz : X.heap.size = W'.heap.size := by rw [← hX]; simp
    have xi : I pre X := by rw [← hX]; exact hI.putObj _ hi' (by omega) hl' rfl
    have xa : Ax x a' X := by rw [← hX]; exact (hAx x a').putObj (s := ()) _ hax (by omega) hl' rfl
    rw [hX]
    refine wpIn_mono (hbody _ pre x a' X (by omega) ⟨_, xl⟩ xi xa hlen) ?_
    have fin : ∀ (jump : Option Code) (Y : World), KeepsFrom B X Y → ∃ Z, Y.putObj (B + 1) (.loop (R (if jump.isNone then .ready else .done) jump)) = Z ∧ (Instr.endRound (B + 1) jump).run P Y = .ok (.bool jump.isNone) Z ∧ Y.heap[B + 1]? = some (.loop { R .ready none with state := .busy }) ∧
        Z.heap[B + 1]? = some (.loop (R (if jump.isNone then .ready else .done) jump)) ∧ Z.heap[B]? = some (.deferred (some [])) ∧ KeepsFrom V.heap.size W Z := fun jump Y ky => by
      have yl := ky.same _ _ (by omega) xl rfl
      have h1 := run_endRound (P := P) jump yl
      refine ⟨_, rfl, ?_, yl, World.putObj_heap_same (Array.getElem?_eq_some_iff.1 yl).1, (World.putObj_heap_other (by omega)).trans (ky.same _ _ (Nat.le_refl _) xd rfl), ?_⟩
      · rw [hR] at h1 ⊢; exact h1
      · refine ⟨?_, fun k o hk h2 ho => ?_⟩
        · have := kf.size; have := ky.size; simp; omega
        · have h3 := kf.same k o (by omega) h2 ho
          have h4 := ky.same k o (by omega) ((xs k (by omega)).trans h3) ho
          exact (World.putObj_heap_other (by omega)).trans h4
    rintro e a3 Y hp
    cases e with
    | normal =>
      obtain ⟨ky, kyc, yi⟩ := hp
      obtain ⟨Z, hZ, hr, yl, zl, zd, kz⟩ := fin none Y ky
      exact ⟨_, Z, hr, kz, .inl ⟨rfl, ⟨by rw [← hZ]; exact hI.putObj _ yi (by omega) yl rfl, zl, zd⟩, ((kc.trans xc).trans kyc).trans (by rw [← hZ]; exact Kc.put _ _ _ _ yl rfl)⟩⟩
    | ret =>
      obtain ⟨ky, yi⟩ := hp
      obtain ⟨Z, hZ, hr, yl, zl, zd, kz⟩ := fin (some .ret) Y ky
      exact ⟨_, Z, hr, kz, .inr ⟨rfl, .ret, by rw [← hZ]; exact (hIx _).putObj _ yi (by omega) yl rfl, zl, zd⟩⟩
    | exit id =>
      obtain ⟨ky, yi⟩ := hp
      obtain ⟨Z, hZ, hr, yl, zl, zd, kz⟩ := fin (some (.exit id)) Y ky
      exact ⟨_, Z, hr, kz, .inr ⟨rfl, .exit id, by rw [← hZ]; exact (hIx _).putObj _ yi (by omega) yl rfl, zl, zd⟩⟩
    | goto t =>
      obtain ⟨ky, yi⟩ := hp
      obtain ⟨Z, hZ, hr, yl, zl, zd, kz⟩ := fin (some (.goto t)) Y ky
      exact ⟨_, Z, hr, kz, .inr ⟨rfl, .goto t, by rw [← hZ]; exact (hIx _).putObj _ yi (by omega) yl rfl, zl, zd⟩⟩
    | panic ch => exact hp.elim
    | outgrown => exact hp.elim
  · rintro e X ⟨⟨v, rfl⟩, (⟨xs, hS, hi, hl, hk⟩ | ⟨pre, hSp, c, hi, hl, hk⟩)⟩
    · exact ⟨none, _, by have := run_endLoop (P := P) hl (by rw [hR]; simp); rw [hR] at this; exact this, hdone _ xs _ (Nat.le_refl _) hS (hI.putObj _ hi (by omega) hl rfl) ((World.putObj_heap_other (by omega)).trans hk)⟩
    · exact ⟨some c, _, by have := run_endLoop (P := P) hl (by rw [hR]; simp); rw [hR] at this; exact this, hstop _ c pre _ (Nat.le_refl _) hSp ((hIx c).putObj _ hi (by omega) hl rfl) ((World.putObj_heap_other (by omega)).trans hk)⟩
end
end Go.Proofs.YtffcnonhhfhlhaaDoor.It
namespace Go.Proofs.YtffcnonhhfhlhaaDoor.Ws
open Go.RowKit Go.Shelf Go.Sort
open Go.Proofs.YtffcnonhhfhlhaaDoor.It
attribute [local go_sem] Oper.semAt_some
set_option linter.unusedVariables false
def str (l : List UInt8) : Value := .string ⟨l.toArray⟩
theorem ext_arr (l : List UInt8) (a b : Nat) : (⟨l.toArray⟩ : ByteArray).extract a b = ⟨((l.take b).drop a).toArray⟩ := by
  have h := ext_list ⟨l.toArray⟩ a b
  simp only at h
  apply ByteArray.ext
  apply Array.toList_inj.1
  rw [h]
theorem spl_none {c : UInt8} {l : List UInt8} (h : cutL c l = (l, none)) : spl c l = [l] := by rw [spl_cut, h]
theorem spl_some {c : UInt8} {l a r : List UInt8} (h : cutL c l = (a, some r)) : spl c l = a :: spl c r := by rw [spl_cut, h]
def msr (bs : Nat) (wr : World) : Nat := match wr.cell? ⟨bs, 0, none⟩ with | some (.string t) => t.size | _ => 0
set_option maxRecDepth 100000 in
set_option maxHeartbeats 1000000 in
theorem split1_s (n : Nat) (l bp bs bz : Nat) (s : List UInt8) (hs : s.length ≤ 140737488355328) (J Jx : List (List UInt8) → World → Prop)
    (hne : bp ≠ bs ∧ bz ≠ bs)
    (hJs : ∀ pre W1 v u t, J pre W1 → W1.heap[bs]? = some (.cells #[u] t (0, 0)) → J pre (W1.setCell ⟨bs, 0, none⟩ v))
    (hY : ∀ pre x W, J pre W → pre ++ [x] <+: spl 32 s → YieldAt Fence.wide (n - 1) Tryd.prog l #[str x] W fun e W' =>
      (e = .returned (.bool true) ∧ J (pre ++ [x]) W' ∧ Kc (fun k _ => k = bp ∨ k = bs ∨ k = bz) W W') ∨ (e = .returned (.bool false) ∧ Jx (pre ++ [x]) W'))
    (W : World) (hp : W.heap[bp]? = some (.cells #[.string ⟨#[32]⟩] 9 (0, 0))) (hb : W.heap[bs]? = some (.cells #[str s] 9 (0, 0))) (hz : W.heap[bz]? = some (.cells #[.int .i64 0] 3 (0, 0))) (h0 : J [] W) :
    CallsIn Fence.wide n Tryd.prog 101 #[.func (.yield l) #[] #[], .pointer (some ⟨bp, 0, none⟩), .pointer (some ⟨bs, 0, none⟩), .pointer (some ⟨bz, 0, none⟩)] W fun e W' => (∃ v, e = .returned v) ∧
      ((∃ ys, ys = spl 32 s ∧ J ys W') ∨ (∃ pre, pre <+: spl 32 s ∧ Jx pre W')) := by
  refine callsIn_of_wp Tryd.func101 rfl trivial ?_ rfl
  simp only [Tryd.ntmps101, List.size_toArray, List.length_cons, List.length_nil, Nat.reduceAdd, Nat.reduceSub, Array.replicate_succ, Array.replicate_zero, List.push_toArray, List.append_toArray, List.nil_append, List.cons_append]
  have c1 := Rg.cell1 hp
  have hsz : (⟨#[32]⟩ : ByteArray).size = 1 := rfl
  have HY := hide hY
  have HJ := hide (And.intro hJs (And.intro hne hs))
  have HST : Hid (∃ (pre : List (List UInt8)) (r : List UInt8), spl 32 s = pre ++ spl 32 r ∧ r.length ≤ s.length ∧ W.heap[bs]? = some (.cells #[str r] 9 (0, 0)) ∧ W.heap[bp]? = some (.cells #[.string ⟨#[32]⟩] 9 (0, 0)) ∧ W.heap[bz]? = some (.cells #[.int .i64 0] 3 (0, 0)) ∧ J pre W) := hide ⟨[], s, rfl, Nat.le_refl _, hb, hp, hz, h0⟩
  clear hY hJs hb hz h0 hp hne hs
  gi_wp2
  gi_loopw [7] (fun _ wr => Hid (∃ (pre : List (List UInt8)) (r : List UInt8), spl 32 s = pre ++ spl 32 r ∧ r.length ≤ s.length ∧ wr.heap[bs]? = some (.cells #[str r] 9 (0, 0)) ∧ wr.heap[bp]? = some (.cells #[.string ⟨#[32]⟩] 9 (0, 0)) ∧ wr.heap[bz]? = some (.cells #[.int .i64 0] 3 (0, 0)) ∧ J pre wr)) (fun _ wr => msr bs wr)
  case atStart => exact HST
  case round =>
    obtain ⟨pre, r, hspl, hrl, hbs, hbp, hbz, hJp⟩ := hrel.out
    clear HST hrel c1
    have d1 := Rg.cell1 hbp
    have d2 := Rg.cell1 hbs
    have d3 := Rg.cell1 hbz
    have f2 := Rg.free3 hbs 0
    have hms : Hid (msr bs wr = r.length) := hide (by unfold msr; rw [d2]; simp [str, ByteArray.size])
    have IX := index103 ⟨r.toArray⟩ 32 wr
    simp only at IX
    unfold str at d2
    have hsize : (⟨r.toArray⟩ : ByteArray).size = r.length := by simp [ByteArray.size]
    have HA := hide (And.intro hspl (And.intro hrl (And.intro hbs (And.intro hbp (And.intro hbz (And.intro hJp HJ.out.2.2))))))
    rcases cut_idx 32 r with ⟨h1, h2⟩ | ⟨k, h1, h2, h3⟩
    · rw [h1] at IX
      have hall : spl 32 s = pre ++ [r] := by rw [hspl, spl_none h2]
      obtain ⟨fn, tmps, assign, body, hy, hR⟩ := HY.out pre r wr hJp ⟨[], by rw [hall]; simp⟩
      unfold str at hy
      have HW := hide hall
      clear h1 h2 hspl hrl hbs hbp hbz hJp hall
      gi_wp2_with fail
      refine ⟨trivial, fun h => (by cases h), (callsIn_wide.2 IX).mono ?_⟩
      rintro e w' ⟨rfl, hw'⟩; obtain rfl := hw'.symm
      gi_wp2
      refine ⟨fun h => (by cases h), hR.mono ?_⟩
      rintro e W3 (⟨rfl, hJ4, hk3⟩ | ⟨rfl, hJx3⟩)
      · have HF := hide hJ4
        clear hJ4 hk3
        gi_wp2
        go_end0
        first | exact ⟨⟨_, rfl⟩, .inl ⟨_, HW.out.symm, HF.out⟩⟩ | (rw [HW.out]; exact ⟨⟨_, rfl⟩, .inl HF.out⟩)
      · have HF := hide hJx3
        clear hJx3
        gi_wp2
        go_end0
        exact ⟨⟨_, rfl⟩, .inr ⟨_, ⟨[], by rw [HW.out]; simp⟩, HF.out⟩⟩
    · rw [h2] at IX
      have hall : spl 32 s = pre ++ (r.take k :: spl 32 (r.drop (k + 1))) := by rw [hspl, spl_some h3]
      obtain ⟨fn, tmps, assign, body, hy, hR⟩ := HY.out pre (r.take k) wr hJp ⟨spl 32 (r.drop (k + 1)), by rw [hall]; simp⟩
      unfold str at hy
      have HW : Hid (spl 32 s = (pre ++ [r.take k]) ++ spl 32 (r.drop (k + 1)) ∧ (r.drop (k + 1)).length ≤ s.length ∧ (r.drop (k + 1)).length < r.length ∧ (pre ++ [r.take k]) <+: spl 32 s) := hide ⟨by rw [hall]; simp, by rw [List.length_drop]; omega, by rw [List.length_drop]; omega, ⟨spl 32 (r.drop (k + 1)), by rw [hall]; simp⟩⟩
      have e1 : (⟨r.toArray⟩ : ByteArray).extract 0 k = ⟨(r.take k).toArray⟩ := by rw [ext_arr]; simp
      have e2 : (⟨r.toArray⟩ : ByteArray).extract (k + 1) r.length = ⟨(r.drop (k + 1)).toArray⟩ := by rw [ext_arr, List.take_of_length_le (Nat.le_refl _)]
      have hbig := HJ.out.2.2
      have k0 : (0 : Int) ≤ (k : Int) := by omega
      have k1 : (k : Int) ≤ (r.length : Int) := by omega
      have k2 : (k : Int) + 1 ≤ (r.length : Int) := by omega
      have k3 : ((k : Int) + 1).toNat = k + 1 := by omega
      have k4 : (k : Int).toNat = k := by omega
      have k6 : (0 : Int) ≤ (k : Int) + 1 := by omega
      have k7 : ¬ (k : Int) < 0 := by omega
      obtain ⟨q1, q2⟩ := kw ((k : Int) + 1) (by omega) (by omega)
      obtain ⟨q3, q4⟩ := kw (k : Int) (by omega) (by omega)
      clear h1 h2 h3 hspl hrl hbs hbp hbz hJp hall hbig
      gi_wp2_with fail
      refine ⟨trivial, fun h => (by cases h), (callsIn_wide.2 IX).mono ?_⟩
      rintro e w' ⟨rfl, hw'⟩; obtain rfl := hw'.symm
      gi_wp2_with fail
      refine ⟨fun h => (by cases h), hR.mono ?_⟩
      rintro e W3 (⟨rfl, hJ4, hk3⟩ | ⟨rfl, hJx3⟩)
      · obtain ⟨_, _, hbs, hbp, hbz, _⟩ := HA.out
        have b1 := hk3 bp _ _ _ (.inl rfl) hbp
        have b2 := hk3 bs _ _ _ (.inr (.inl rfl)) hbs
        have b3 := hk3 bz _ _ _ (.inr (.inr rfl)) hbz
        have g1 := Rg.cell1 b1
        have g2 := Rg.cell1 b2
        have g3 := Rg.free3 b2 0
        have hset := Rg.set3 b2 0 (str (r.drop (k + 1)))
        have HN : Hid (∃ (pre : List (List UInt8)) (r' : List UInt8), spl 32 s = pre ++ spl 32 r' ∧ r'.length ≤ s.length ∧ (W3.setCell ⟨bs, 0, none⟩ (str (r.drop (k + 1)))).heap[bs]? = some (.cells #[str r'] 9 (0, 0)) ∧ (W3.setCell ⟨bs, 0, none⟩ (str (r.drop (k + 1)))).heap[bp]? = some (.cells #[.string ⟨#[32]⟩] 9 (0, 0)) ∧ (W3.setCell ⟨bs, 0, none⟩ (str (r.drop (k + 1)))).heap[bz]? = some (.cells #[.int .i64 0] 3 (0, 0)) ∧ J pre (W3.setCell ⟨bs, 0, none⟩ (str (r.drop (k + 1))))) := hide ⟨pre ++ [r.take k], r.drop (k + 1), HW.out.1, HW.out.2.1, hset, (set_other _ _ _ _ HJ.out.2.1.1).trans b1, (set_other _ _ _ _ HJ.out.2.1.2).trans b3, HJ.out.1 _ _ _ _ _ hJ4 b2⟩
        have HM : Hid (msr bs (W3.setCell ⟨bs, 0, none⟩ (str (r.drop (k + 1)))) < msr bs wr) := hide (by
          rw [hms.out]
          unfold msr
          rw [Rg.cell1 hset]
          simp only [str, ByteArray.size, List.size_toArray]
          exact HW.out.2.2.1)
        unfold str at g2 HN HM
        clear hJ4 hk3 hbs hbp hbz b1 b2 b3 hset hy hR d1 d2 d3 f2
        gi_wp2
        go_roundw
        case rel => exact HN
        case measure => exact HM.out
      · have HF := hide hJx3
        clear hJx3
        gi_wp2
        refine bodyPost_ret (results_none rfl _ _ _) rfl ?_
        exact ⟨⟨_, rfl⟩, .inr ⟨_, HW.out.2.2.2, HF.out⟩⟩
theorem split_s (bp bs bz : Nat) (s : List UInt8) (hs : s.length ≤ 140737488355328) (hne : bp ≠ bs ∧ bz ≠ bs) (w : World) (hp : w.heap[bp]? = some (.cells #[.string ⟨#[32]⟩] 9 (0, 0))) (hb : w.heap[bs]? = some (.cells #[str s] 9 (0, 0))) (hz : w.heap[bz]? = some (.cells #[.int .i64 0] 3 (0, 0))) :
    SeqS Tryd.prog 101 #[.pointer (some ⟨bp, 0, none⟩), .pointer (some ⟨bs, 0, none⟩), .pointer (some ⟨bz, 0, none⟩)] (fun x : List UInt8 => #[str x]) (fun k _ => k = bp ∨ k = bs ∨ k = bz) (fun ys => ys = spl 32 s) (fun pre => pre <+: spl 32 s) bs w := fun n l J Jx W hW hJ hJx hJs hY h0 =>
  split1_s n l bp bs bz s hs J Jx hne hJs (fun pre x W1 hj hl => by
      obtain ⟨fn, tmps, assign, body, hy, hR⟩ := hY pre x W1 hj hl (n - 1)
      exact ⟨fn, tmps, assign, body, hy, hR.mono fun e W' hh => hh.2⟩) W
    ((hW.block bp (Rg.blk_lt hp)).trans hp) ((hW.block bs (Rg.blk_lt hb)).trans hb) ((hW.block bz (Rg.blk_lt hz)).trans hz) h0
set_option maxHeartbeats 1000000 in
/-- strings.SplitSeq at a blank -/
theorem splitSeq64 (s : List UInt8) (w : World) :
    Calls Tryd.prog 64 #[str s, .string ⟨#[32]⟩] w fun e w' => e = .returned (.func (.func 101) #[] #[.pointer (some ⟨w.heap.size + 1, 0, none⟩), .pointer (some ⟨w.heap.size, 0, none⟩), .pointer (some ⟨w.heap.size + 2, 0, none⟩)]) ∧ w'.heap[w.heap.size]? = some (.cells #[str s] 9 (0, 0)) ∧ w'.heap[w.heap.size + 1]? = some (.cells #[.string ⟨#[32]⟩] 9 (0, 0)) ∧ w'.heap[w.heap.size + 2]? = some (.cells #[.int .i64 0] 3 (0, 0)) ∧ Rg.Kp Rg.Nu w w' := by
  have k1 := Rg.Kp.alloc w (.cells #[str s] 9) Rg.Nu
  have k2 := Rg.Kp.alloc (w.alloc (.cells #[str s] 9)) (.cells #[.string ⟨#[32]⟩] 9) Rg.Nu
  have k3 := Rg.Kp.alloc ((w.alloc (.cells #[str s] 9)).alloc (.cells #[.string ⟨#[32]⟩] 9)) (.cells #[.int .i64 0] 3) Rg.Nu
  have x1 := heap_alloc_new w (.cells #[str s] 9)
  have x2 := heap_alloc_new (w.alloc (.cells #[str s] 9)) (.cells #[.string ⟨#[32]⟩] 9)
  have x3 := heap_alloc_new ((w.alloc (.cells #[str s] 9)).alloc (.cells #[.string ⟨#[32]⟩] 9)) (.cells #[.int .i64 0] 3)
  have HF := hide (And.intro ((k3.block _ (by simp; omega) (fun h => h)).trans ((k2.block _ (by simp) (fun h => h)).trans x1)) (And.intro ((k3.block _ (by simp) (fun h => h)).trans x2) (And.intro x3 ((k1.andNu k2).andNu k3))))
  clear k1 k2 k3 x1 x2 x3
  simp only [World.size_alloc] at HF
  unfold str at HF ⊢
  have SP : Calls Tryd.prog 80 #[.string ⟨s.toArray⟩, .string ⟨#[32]⟩, .int .i64 0] w fun e w' => e = .returned (.func (.func 101) #[] #[.pointer (some ⟨w.heap.size + 1, 0, none⟩), .pointer (some ⟨w.heap.size, 0, none⟩), .pointer (some ⟨w.heap.size + 2, 0, none⟩)]) ∧ w' = ((w.alloc (.cells #[.string ⟨s.toArray⟩] 9)).alloc (.cells #[.string ⟨#[32]⟩] 9)).alloc (.cells #[.int .i64 0] 3) := by
    go_enter Tryd.func80, Tryd.ntmps80
    go_wp2
    go_ret
    exact ⟨rfl, rfl⟩
  go_enter Tryd.func64, Tryd.ntmps64
  go_wp2_with fail
  refine SP.mono ?_; rintro e w' ⟨rfl, hw'⟩
  obtain rfl := hw'.symm
  go_wp2
  go_ret
  exact ⟨rfl, HF.out⟩
end Go.Proofs.YtffcnonhhfhlhaaDoor.Ws
