import Derived.Test.YtchealdgncgjoaaShD
import Derived.Test.YtchealdgncgjoaaOrd
import Derived.Test.YtchealdgncgjoaaItC
import Derived.Laws.MakeOwn
import Derived.OwnWalkIn
namespace Go.Proofs.Ytchealdgncgjoaa.StU
open Go.RowKit Go.Proofs.Ytchealdgncgjoaa.St Go.Shelf Go.Sort Go.Proofs.Ytchealdgncgjoaa.It
attribute [local go_sem] Oper.semAt_some
set_option linter.unusedVariables false
theorem info78 : (Try.prog.info? 78).map (fun i => (i.zero, i.size, i.bytes)) = some (some (.agg #[.int .u64 0, .slice none 0 0]), 2, 32) := by kernel_rfl
/-- the cells are as they were -/
def Cc (X Z : World) : Prop := ∀ (k : Nat) (c : Array Value) (t : TypeId) (m : Nat × Nat), X.heap[k]? = some (.cells c t m) → Z.heap[k]? = some (.cells c t m)
theorem Cc.grown {B : Nat} {X Z : World} {row : Option Nat} (hg : X.grownBy Z row) (hr : ∀ r, row = some r → B ≤ r ∧ ∃ o, X.heap[r]? = some o ∧ o.isCells = false) : Cc X Z := fun k c t m h =>
  (hg.block k (blk_lt h) (fun e => by obtain ⟨_, o, ho, hc⟩ := hr k e.symm; rw [h] at ho; cases ho; cases hc)).trans h
theorem Cc.nu {X Z : World} (k : Kp Nu X Z) : Cc X Z := fun b c t m e => (k.block b (blk_lt e) (fun h => h)).trans e
theorem Cc.trans {X Y Z : World} (h : Cc X Y) (k : Cc Y Z) : Cc X Z := fun b c t m e => k b c t m (h b c t m e)
theorem Cc.mp {X Z : World} (h : Cc X Z) {mb : Nat} {t : T (Int × Sv)} (hm : Mp X mb t) : Mp Z mb t := by
  obtain ⟨a, h1, h2⟩ := hm.ex
  exact ⟨⟨a, h _ _ _ _ h1, h2.keep (fun b c e => h _ _ _ _ e)⟩, hm.bal, hm.srt⟩
theorem Cc.own {X Z : World} (h : Cc X Z) {B e size n : Nat} {v : Value} {l : List Value} (ho : X.ownsRow B e size v n l) : Z.ownsRow B e size v n l :=
  own_keep ho (fun g hg => by obtain ⟨cur, hc⟩ := own_obj ho hg; rw [hc]; exact h _ _ _ _ hc)
theorem Cc.sh {X Z : World} (h : Cc X Z) {sb mb : Nat} {most : Int} {t : T (Int × Sv)} {M : List KV} (s : Sh X sb mb most t M) : Sh Z sb mb most t M :=
  ⟨h _ _ _ _ s.box, h.mp s.m, s.vs.imp (fun p m hf => ⟨hf.1, h.own hf.2.1, hf.2.2⟩), s.lm, s.mo⟩
/-- at the end the marks are taken; cells and the blocks below stay -/
theorem leaves_all {F : Fence} {n : Nat} {fn : Func} {tmps : Array Value} {R : Ending → World → Prop} {B : Nat} : ∀ (Ls : List Nat) (V : World), Ls.Nodup → (∀ D ∈ Ls, B ≤ D ∧ V.heap[D]? = some (.deferred (some []))) →
    (∀ Z, Cc V Z → Kp (fun k => B ≤ k) V Z → LeavesIn F n Try.prog fn tmps R [] .returning Z) → LeavesInM F n Try.prog fn tmps R (Ls.map (fun D => { target := .collected D, args := #[] })) .returning V
  | [], V, _, _, h => h V (fun _ _ _ _ e => e) (Kp.refl _ _)
  | D :: Ls, V, hn, hd, h => by
    obtain ⟨h1, h2⟩ := hd D (by simp)
    rw [List.nodup_cons] at hn
    refine ⟨by simp, .inl ⟨D, V.putObj D (.deferred none), rfl, run_takeDeferred h2, ?_⟩⟩
    refine leaves_all Ls _ hn.2 (fun D' hD' => ⟨(hd D' (by simp [hD'])).1, (World.putObj_heap_other (fun e => by subst e; exact hn.1 hD')).trans (hd D' (by simp [hD'])).2⟩) (fun Z hc hk => h Z ?_ ?_)
    · intro k c t m e
      exact hc k c t m ((World.putObj_heap_other (fun e2 => by subst e2; rw [h2] at e; cases e)).trans e)
    · have k0 : Kp (fun k => B ≤ k) V (V.putObj D (.deferred none)) := ⟨rfl, rfl, rfl, by simp, fun k hk hs => World.putObj_heap_other (fun e => by subst e; exact hs h1)⟩
      exact k0.trans hk (fun _ _ h => h)
theorem region_tight {F : Fence} {n : Nat} {P : Program} {c : Code} {K : Act → World → Prop} {Q : Exit → Act → World → Prop} {a : Act} {w : World} (h : c.wpIn F n P (Exit.then K (fun _ _ _ => False)) a w) : c.wpIn F n P (Exit.then K Q) a w :=
  Code.wpIn_mono (fun e a w h => by cases e <;> first | exact h | exact h.elim) h
theorem unhidS {p : Prop} (h : Hid p) : p := h
abbrev sl (v : Sv) : Value := .slice v.a v.n v.c
/-- pairs as cells -/
def pc (L : List (Int × Sv)) : List Value := L.flatMap (fun p => [.int .u64 p.1, sl p.2])
theorem pc_snoc (L : List (Int × Sv)) (p : Int × Sv) : pc (L ++ [p]) = pc L ++ [.int .u64 p.1, sl p.2] := by simp [pc]
theorem pc_length (L : List (Int × Sv)) : (pc L).length = L.length * 2 := by
  induction L with
  | nil => rfl
  | cons p L ih => rw [show pc (p :: L) = [.int .u64 p.1, sl p.2] ++ pc L from rfl, List.length_append, ih, List.length_cons]; simp; omega
theorem cells_two_new (w : World) (x y : Value) (t : TypeId) : ∀ j u, [x, y][j]? = some u → (w.alloc (.cells #[x, y] t)).cell? ((⟨w.heap.size, 0, none⟩ : Addr).add j) = some u := fun j u hj => by
  have hb := heap_alloc_new w (.cells #[x, y] t)
  match j, hj with
  | 0, hj => simp at hj; subst hj; exact (cell2 hb).1
  | 1, hj => simp at hj; subst hj; exact (cell2 hb).2
  | j + 2, hj => simp at hj
theorem lt_cases8 {i : Nat} (h : i < 8) : i = 0 ∨ i = 1 ∨ i = 2 ∨ i = 3 ∨ i = 4 ∨ i = 5 ∨ i = 6 ∨ i = 7 := by omega
/-- an append, as one step of a region that draws -/
theorem wpOpIn_append {F : Fence} {n : Nat} {P : Program} {ops : Array Oper} {Q : Exit → Act → World → Prop} {i : Nat} {K : Act → World → Prop} {a : Act} {w w' : World} {o : Oper} (ho : ops[i]? = some o) (hg : o.guard = none) (s x : Operand) (t : TypeId)
    (hop : o.op = Op.call { callee := Callee.builtin Builtin.append, args := #[s, x], argTypes := #[t, t] }) (v u v' : Value) (hs : a.eval s = v) (hx : a.eval x = u) (hrun : (Builtin.append_ #[t, t] o.type #[v, u]).run P w = .ok v' w') (h : K (a.put o.dst v') w') :
    wpOpIn F n P ops Q i K a w := by
  refine wpOpIn_step ho (fun K' hK' => ?_)
  rw [if_pos (by simp [Region.wanted, hg])]
  unfold Oper.wpIn
  refine ⟨?_, ?_⟩
  · simp [Oper.about, hop, resolve, Target.leads, Sem.run_pure]
  · rw [Oper.semAt_plain F _ _ (by rw [hop]; intro c hc'; cases hc')]
    simp [execOp, hop, resolve, invoke, builtin, hs, hx, hrun, Result.andThen]
    exact hK' _ _ h
/-- where copies stands -/
structure Cp (V : World) (B N b7 b9 gk : Nat) (L : List (Int × Sv)) (A : List KV) : Prop where
  lim : V.heap[b7]? = some (.cells #[.int .i64 (N : Int)] 3 (0, 0))
  bx : V.heap[b9]? = some (.cells #[.slice (some ⟨gk, 0, none⟩) L.length N] 68 (0, 0))
  own : V.ownsRow B 78 2 (.slice (some ⟨gk, 0, none⟩) L.length N) L.length (pc L)
  f : F2 (FV V) L A
  lo : ∀ p ∈ L, ∀ g, (sl p.2).ownBlock = some g → B ≤ g
  ap : L.Pairwise (fun p q => ∀ g, (sl p.2).ownBlock = some g → (sl q.2).ownBlock ≠ some g)
  l9 : B ≤ b9
section
variable {V W : World} {B N b7 b9 gk : Nat} {L : List (Int × Sv)} {A : List KV}
def Sp2 (b9 gk : Nat) (j : Nat) : Prop := j = b9 ∨ j = gk
theorem Cp.rowb (h : Cp V B N b7 b9 gk L A) : ∃ c, V.heap[gk]? = some (.cells c 78 (0, 0)) := own_obj h.own rfl
theorem Cp.ty (h : Cp V B N b7 b9 gk L A) {i : Nat} {c : Array Value} {ty : TypeId} {m : Nat × Nat} (hs : Sp2 b9 gk i) (hc : V.heap[i]? = some (.cells c ty m)) : ty = 68 ∨ ty = 78 := by
  rcases hs with rfl | rfl
  · rw [h.bx] at hc; cases hc; exact .inl rfl
  · obtain ⟨c', hc'⟩ := h.rowb
    rw [hc'] at hc; cases hc; exact .inr rfl
theorem Cp.nu (h : Cp V B N b7 b9 gk L A) (k : Kp Nu V W) : Cp W B N b7 b9 gk L A :=
  ⟨(k.block _ (blk_lt h.lim) (fun h => h)).trans h.lim, (k.block _ (blk_lt h.bx) (fun h => h)).trans h.bx, own_keep h.own (fun g e => k.block g (own_lt h.own e) (fun h => h)),
    h.f.imp (fun p m hf => hf.keep k (fun _ _ hs => hs.elim)), h.lo, h.ap, h.l9⟩
/-- the value has been copied -/
def CL (V : World) (ys : List Int) (v : Sv) (W : World) : Prop := W.ownsRow V.heap.size 5 1 (sl v) ys.length (cs ys) ∧ Kp Nu V W
def P2 (V : World) (ys : List Int) (k : Int) (v : Sv) (Bs : Nat) (W : World) : Prop := ∃ W1, CL V ys v W1 ∧ W = W1.alloc (.cells #[.int .u64 k, sl v] 78) ∧ Bs = W1.heap.size
def P3 (V : World) (B N gk : Nat) (L : List (Int × Sv)) (ys : List Int) (k : Int) (v : Sv) (W : World) : Prop := ∃ Bs W2, P2 V ys k v Bs W2 ∧ W.ownsRow B 78 2 (.slice (some ⟨gk, 0, none⟩) (L.length + 1) N) (L.length + 1) (pc L ++ [.int .u64 k, sl v]) ∧ W2.grownBy W (some gk)
def P4 (V : World) (B N b9 gk : Nat) (L : List (Int × Sv)) (ys : List Int) (k : Int) (v : Sv) (W : World) : Prop := ∃ W3, P3 V B N gk L ys k v W3 ∧ W = W3.setCell ⟨b9, 0, none⟩ (.slice (some ⟨gk, 0, none⟩) (L.length + 1) N)
variable {ys : List Int} {k : Int} {v : Sv} {Bs : Nat}
theorem P2.kp (h : P2 V ys k v Bs W) : Kp Nu V W := by
  obtain ⟨W1, h1, rfl, _⟩ := h
  exact h1.2.andAlloc _
theorem P2.cell (h : P2 V ys k v Bs W) : ∀ j u, [.int .u64 k, sl v][j]? = some u → W.cell? ((⟨Bs, 0, none⟩ : Addr).add j) = some u := by
  obtain ⟨W1, h1, rfl, rfl⟩ := h
  exact cells_two_new W1 _ _ _
theorem P3.kp (h : P3 V B N gk L ys k v W) : Kp (fun j => j = gk) V W := by
  obtain ⟨Bs, W2, h2, _, hg⟩ := h
  exact (h2.kp.mono (fun _ _ e => e.elim)).trans (Kp.of_grown hg) (fun _ _ e => Option.some.inj e)
theorem P3.box (h : P3 V B N gk L ys k v W) (hc : Cp V B N b7 b9 gk L A) : W.heap[b9]? = some (.cells #[.slice (some ⟨gk, 0, none⟩) L.length N] 68 (0, 0)) :=
  (h.kp.block _ (blk_lt hc.bx) (fun e => by obtain ⟨c, hg⟩ := hc.rowb; have e : b9 = gk := e; rw [← e, hc.bx] at hg; cases hg)).trans hc.bx
theorem P4.kp (h : P4 V B N b9 gk L ys k v W) : Kp (Sp2 b9 gk) V W := by
  obtain ⟨W3, h3, rfl⟩ := h
  exact (h3.kp.mono (fun _ _ e => .inr e)).trans (Kp.setCell _ _ _) (fun _ _ e => .inl e)
/-- one pair more -/
theorem P4.cp {x : Int × Sv} {m : KV} (h : P4 V B N b9 gk L m.2 m.1 v W) (hc : Cp V B N b7 b9 gk L A) (hx : FV V x m) (hB : B ≤ V.heap.size) : Cp W B N b7 b9 gk (L ++ [(m.1, v)]) (A ++ [m]) := by
  have kp := h.kp
  obtain ⟨W3, h3, rfl⟩ := h
  have hb9 := h3.box hc
  obtain ⟨Bs, W2, ⟨W1, ⟨ho1, k1⟩, rfl, rfl⟩, ho, hg⟩ := id h3
  have hne : b9 ≠ gk := fun e => by obtain ⟨c, hg⟩ := hc.rowb; rw [← e, hc.bx] at hg; cases hg
  have hl : (L ++ [(m.1, v)]).length = L.length + 1 := by simp
  -- the copy's own block is new
  have hn : ∀ g, (sl v).ownBlock = some g → V.heap.size ≤ g := fun g hg => (ho1.lt g hg).1
  have hgk : gk < V.heap.size := own_lt hc.own rfl
  have hov : (W3.setCell ⟨b9, 0, none⟩ (.slice (some ⟨gk, 0, none⟩) (L.length + 1) N)).ownsRow 0 5 1 (sl v) m.2.length (cs m.2) := by
    refine own_base (own_keep ho1 (fun g e => ?_)) (Nat.zero_le _)
    have hlt := own_lt ho1 e
    have hge := hn g e
    have e1 := Below.heap_alloc W1 (.cells #[.int .u64 m.1, sl v] 78) g hlt
    have e2 := (Kp.of_grown hg).block g (by simp; omega) (fun e => by have : g = gk := (Option.some.inj e); omega)
    have e3 := Below.heap_setCell W3 ⟨b9, 0, none⟩ (.slice (some ⟨gk, 0, none⟩) (L.length + 1) N) g (fun e => by have e : g = b9 := e; have := blk_lt hc.bx; omega)
    exact e3.trans (e2.trans e1)
  refine ⟨(kp.block _ (blk_lt hc.lim) (fun e => by rcases hc.ty e hc.lim with e | e <;> cases e)).trans hc.lim, by rw [hl, set3 hb9]; rfl, ?_, ?_, ?_, ?_, hc.l9⟩
  · rw [hl, pc_snoc]
    exact own_keep ho (fun g e => Below.heap_setCell W3 ⟨b9, 0, none⟩ _ g (fun e2 => by have e2 : g = b9 := e2; have : gk = g := Option.some.inj e; omega))
  · refine (hc.f.imp (fun p q hf => hf.keep kp (fun i c hs hc' => by rcases hc.ty hs hc' with e | e <;> cases e))).app ⟨⟨rfl, hov, hx.2.2⟩, trivial⟩
  · intro p hp g hg'
    rcases List.mem_append.1 hp with hp | hp
    · exact hc.lo p hp g hg'
    · obtain rfl : p = (m.1, v) := by simpa using hp
      have := hn g hg'; omega
  · rw [List.pairwise_append]
    refine ⟨hc.ap, List.pairwise_singleton _ _, ?_⟩
    intro p hp q hq g hg1 hg2
    obtain rfl : q = (m.1, v) := by simpa using hq
    have h2 := hn g hg2
    obtain ⟨q, _, hf⟩ : ∃ b ∈ A, FV V p b := by
      have : ∀ {L : List (Int × Sv)} {A : List KV}, F2 (FV V) L A → ∀ p ∈ L, ∃ b ∈ A, FV V p b := by
        intro L
        induction L with
        | nil => intro A _ p hp; cases hp
        | cons a L ih => intro A h p hp
                         cases A with
                         | nil => exact h.elim
                         | cons b A =>
                           rcases List.mem_cons.1 hp with rfl | hp
                           · exact ⟨b, by simp, h.1⟩
                           · obtain ⟨c, hc, hf⟩ := ih h.2 p hp
                             exact ⟨c, by simp [hc], hf⟩
      exact this hc.f p hp
    have h1 := own_lt hf.2.1 hg1
    omega
theorem kp_of {l3 l5 l6 : Bool} (hw0 : l3 = false → W = V.drew) (hw1 : l3 = true → l5 = false → Hid (CL V ys v W)) (hw2 : l5 = true → l6 = false → Hid (P2 V ys k v Bs W)) (h6 : l6 = false) : Kp Nu V W := by
  cases h3 : l3 with
  | false => rw [hw0 h3]; exact (Kp.refl _ _).drew
  | true =>
    cases h5 : l5 with
    | false => exact (hw1 h3 h5).out.2
    | true => exact (hw2 h5 h6).out.kp
theorem Cp.cc (h : Cp V B N b7 b9 gk L A) (c : Cc V W) : Cp W B N b7 b9 gk L A :=
  ⟨c _ _ _ _ h.lim, c _ _ _ _ h.bx, c.own h.own, h.f.imp (fun p m hf => ⟨hf.1, c.own hf.2.1, hf.2.2⟩), h.lo, h.ap, h.l9⟩
/-- what stands ahead of a pair; what stands where it is stopped -/
def CI (w : World) (N b7 b9 gk sb mb : Nat) (most : Int) (t : T (Int × Sv)) (M FM : List KV) (pre : List (Int × Sv)) (V : World) : Prop :=
  ∃ L, L.length = pre.length ∧ Cp V w.heap.size N b7 b9 gk L (FM.take pre.length) ∧ Sh V sb mb most t M ∧ Below w.heap.size w V
def CE (w : World) (N b7 b9 gk sb mb : Nat) (most : Int) (t : T (Int × Sv)) (M FM : List KV) (c : Code) (pre : List (Int × Sv)) (V : World) : Prop :=
  c = .exit 0 ∧ ∃ L, L.length = N ∧ Cp V w.heap.size N b7 b9 gk L (FM.take N) ∧ Sh V sb mb most t M ∧ Below w.heap.size w V
theorem pre_at {α : Type} {pre L : List α} {x : α} (h : pre ++ [x] <+: L) : L[pre.length]? = some x ∧ pre.length < L.length := by
  obtain ⟨s, rfl⟩ := h
  simp
theorem Cp.post {w : World} {sb mb : Nat} {most : Int} {t : T (Int × Sv)} {M : List KV} (h : Cp V w.heap.size N b7 b9 gk L A) (k : Kp (Sp2 b9 gk) V W) (hs : Sh V sb mb most t M) (hb : Below w.heap.size w V) (C : Nat) : KeepsFrom C V W ∧ Kc (KM mb) V W ∧ Below w.heap.size w W ∧ Sh W sb mb most t M := by
  refine ⟨kf_cells k (fun j hj => ?_), kc_cells k (fun j c ty m hj hc hK => ?_), ((Kp.of_below hb).trans k (fun j hj e => ?_)).toBelow, hs.keep k (fun i c ty hi hc => by rcases h.ty hi hc with rfl | rfl <;> decide)⟩
  · rcases hj with rfl | rfl
    · exact ⟨_, _, _, h.bx⟩
    · obtain ⟨c, hc⟩ := h.rowb
      exact ⟨_, _, _, hc⟩
  · have e := h.ty hj hc
    rcases hK with h | h | h | h | h
    · rcases e with e | e <;> rw [h] at e <;> cases e
    · rcases e with e | e <;> rw [h] at e <;> cases e
    · rcases e with e | e <;> rw [h] at e <;> cases e
    · rcases e with e | e <;> rw [h] at e <;> cases e
    · obtain ⟨a, h1, _⟩ := hs.m.ex
      rw [h, h1] at hc; cases hc
      rcases e with e | e <;> cases e
  · have l9 := h.l9
    have lg := (h.own.lt gk rfl).1
    rcases e with e | e
    · have e : j = b9 := e; omega
    · have e : j = gk := e; omega
end
end Go.Proofs.Ytchealdgncgjoaa.StU
