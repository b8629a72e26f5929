import Derived.Test.YtchealdgncgjoaaNlB
import Derived.Test.YtchealdgncgjoaaPqN
import Derived.Test.YtchealdgncgjoaaItL
import Derived.Sort.CutIn
namespace Go.Proofs.Ytchealdgncgjoaa.StI
open Go.RowKit Go.Proofs.Ytchealdgncgjoaa.St
set_option linter.unusedVariables false

theorem put_first {w : World} {mb : Nat} (h : Mp w mb .nil) (k v : Int) :
    Calls Try.prog 17 #[.pointer (some ⟨mb, 0, none⟩), .int .i64 k, .int .i64 v] w fun e w' => e = .returned (.tuple #[.int .i64 0, .bool false]) ∧ Mp w' mb (.node .nil (k, v) .nil) ∧ Kp (fun i => i = mb) w w' := by
  refine (put_any h k v (by simp [T.sz])).mono ?_
  rintro e w' ⟨e1, e2, e3⟩
  exact ⟨e1, e2, e3⟩
theorem get_first {w : World} {mb : Nat} {k v : Int} (h : Mp w mb (.node .nil (k, v) .nil)) :
    Calls Try.prog 56 #[.pointer (some ⟨mb, 0, none⟩), .int .i64 k] w fun e w' => e = .returned (.tuple #[.int .i64 v, .bool true]) ∧ Kp Nu w w' := by
  refine (get_any h k (by simp [T.sz])).mono ?_
  rintro e w' ⟨e1, e2⟩
  have hc : cmpI k k = 0 := cmpI_ord.zero k
  have hf : T.fd (sd k) (.node .nil (k, v) .nil) = (0, true) := by
    simp [T.fd, sd, side, hc, T.sz]
  rw [hf] at e1
  have hg : getT k (.node .nil (k, v) .nil) = some (k, v) := by unfold getT; rw [hf]; rfl
  rw [hg] at e1
  exact ⟨e1, e2⟩

set_option maxRecDepth 100000 in
set_option maxHeartbeats 2000000 in
theorem nil_walk (w : World) (k v : Int) : Calls Try.prog 11 #[.int .i64 k, .int .i64 v] w fun e w' => e = .returned (.bool true) ∧ Kp Nu w w' := by
  have NM := newMap_nil w
  have NA := new_any w
  have PN := fun W => put_nil W k v
  have GN := fun W => get_nil W k
  have DN := fun W => del_nil W k
  have AN := At_nil
  have FN := fun W => floor_nil W k
  have CN := fun W => ceil_nil W k
  have ON := collect_nil
  have KN := clone_nil
  have LN := len_nil
  have HN := height_nil
  have RN := fun W => rank_nil W k
  go_enter Try.func11, Try.ntmps11
  go_wp2_with (first
    | (go_at_call 55; refine NM.mono ?_; rintro e w' ⟨rfl, hw⟩; obtain rfl := hw.symm)
    | (go_at_call 16; refine NA.mono ?_; rintro e w1 ⟨rfl, hm1, k1⟩; have PF := put_first hm1 k v)
    | (go_at_call 17; refine PF.mono ?_; rintro e w2 ⟨rfl, hm2, k2⟩; have GF := get_first hm2; clear PF)
    | (go_at_call 56; refine GF.mono ?_; rintro e w3 ⟨rfl, k3⟩; clear GF)
    | (go_at_call 17; refine (PN _).mono ?_; rintro e w' ⟨rfl, hw⟩; obtain rfl := hw.symm)
    | (go_at_call 56; refine (GN _).mono ?_; rintro e w' ⟨rfl, hw⟩; obtain rfl := hw.symm)
    | (go_at_call 24; refine (DN _).mono ?_; rintro e w' ⟨rfl, hw⟩; obtain rfl := hw.symm)
    | (go_at_call 23; refine (AN _).mono ?_; rintro e w' ⟨rfl, hw⟩; obtain rfl := hw.symm)
    | (go_at_call 57; refine (FN _).mono ?_; rintro e w' ⟨rfl, hw⟩; obtain rfl := hw.symm)
    | (go_at_call 58; refine (CN _).mono ?_; rintro e w' ⟨rfl, hw⟩; obtain rfl := hw.symm)
    | (go_at_call 59; refine (ON _).mono ?_; rintro e w4 ⟨s1, s2, q1, q2, rfl, k4⟩)
    | (go_at_call 60; refine (KN _).mono ?_; rintro e w' ⟨rfl, hw⟩; obtain rfl := hw.symm)
    | (go_at_call 21; refine (LN _).mono ?_; rintro e w' ⟨rfl, hw⟩; obtain rfl := hw.symm)
    | (go_at_call 22; refine (HN _).mono ?_; rintro e w' ⟨rfl, hw⟩; obtain rfl := hw.symm)
    | (go_at_call 61; refine (RN _).mono ?_; rintro e w' ⟨rfl, hw⟩; obtain rfl := hw.symm))
  go_ret
  refine ⟨rfl, ?_⟩
  exact ((k1.trans k2 (fun i hi e => by have e : i = w.heap.size := e; omega)).andNu k3).andNu k4
end Go.Proofs.Ytchealdgncgjoaa.StI
namespace Go.Proofs.Ytchealdgncgjoaa.StI
open Go.RowKit Go.Proofs.Ytchealdgncgjoaa.St Go.Shelf Go.Sort Go.Proofs.Ytchealdgncgjoaa.It
attribute [local go_sem] Oper.semAt_some
set_option linter.unusedVariables false

set_option maxHeartbeats 400000 in
theorem span_nil (w : World) (lo hi : Int) : Calls Try.prog 87 #[.pointer none, .pointer none, .int .i64 lo, .int .i64 hi] w fun e w' => e = .returned (.tuple #[.int .i64 0, .int .i64 0]) ∧ w' = w := by
  have FA := find_nil w none lo
  have FB := find_nil w none hi
  go_enter Try.func87, Try.ntmps87
  go_wp2_with (first
    | (go_at_call 78; refine FA.mono ?_; rintro e w' ⟨rfl, hw⟩; obtain rfl := hw.symm; clear FA)
    | (go_at_call 78; refine FB.mono ?_; rintro e w' ⟨rfl, hw⟩; obtain rfl := hw.symm))
  go_ret2
  exact ⟨rfl, rfl⟩
set_option maxRecDepth 100000 in
set_option maxHeartbeats 800000 in
theorem between1_nil (w : World) (l bx B1 B2 : Nat) (lo hi : Int) (hb : w.heap[bx]? = some (.cells #[.pointer none] 22 (0, 0))) (hb1 : w.heap[B1]? = some (.cells #[.int .i64 lo] 3 (0, 0))) (hb2 : w.heap[B2]? = some (.cells #[.int .i64 hi] 3 (0, 0))) :
    Calls Try.prog 86 #[.func (.yield l) #[] #[], .pointer (some ⟨bx, 0, none⟩), .pointer (some ⟨B1, 0, none⟩), .pointer (some ⟨B2, 0, none⟩)] w fun e w' => (∃ v, e = .returned v) ∧ Kp Nu w w' := by
  have TA := tree_nil w
  have SN := span_nil w lo hi
  have TN := tell_empty w none 0 0 l
  have c0 := cell1 hb
  have c1 := cell1 hb1
  have c2 := cell1 hb2
  clear hb hb1 hb2
  go_enter Try.func86, Try.ntmps86
  go_wp2_with (first
    | (go_at_call 83; refine TA.mono ?_; rintro e w' ⟨rfl, hw⟩; obtain rfl := hw.symm)
    | (go_at_call 87; refine SN.mono ?_; rintro e w' ⟨rfl, hw⟩; obtain rfl := hw.symm)
    | (go_at_call 84; refine TN.mono ?_; rintro e w2 ⟨⟨v2, rfl⟩, k2⟩))
  go_end0
  exact ⟨⟨_, rfl⟩, k2⟩
theorem all_q0 (mb bx : Nat) (w : World) (hb : w.heap[bx]? = some (.cells #[.pointer none] 22 (0, 0))) :
    SeqQ Try.prog 82 #[.pointer (some ⟨bx, 0, none⟩)] (fun x : Int × Int => #[.int .i64 x.1, .int .i64 x.2]) (KM mb) (fun ys => ys = []) (fun pre => pre <+: []) 0 w := fun n l J Jx W hW hJ hJx hY h0 => by
  refine (callsIn_wide (n := n)).2 ?_
  refine (all1_nil W l bx ((hW.block bx (blk_lt hb)).trans hb)).mono ?_
  rintro e W' ⟨hv, hk⟩
  exact ⟨hv, .inl ⟨[], rfl, own_nu hJ h0 hk⟩⟩
theorem between_q0 (mb bx B1 B2 : Nat) (w : World) (lo hi : Int) (hb : w.heap[bx]? = some (.cells #[.pointer none] 22 (0, 0))) (hb1 : w.heap[B1]? = some (.cells #[.int .i64 lo] 3 (0, 0))) (hb2 : w.heap[B2]? = some (.cells #[.int .i64 hi] 3 (0, 0))) :
    SeqQ Try.prog 86 #[.pointer (some ⟨bx, 0, none⟩), .pointer (some ⟨B1, 0, none⟩), .pointer (some ⟨B2, 0, none⟩)] (fun x : Int × Int => #[.int .i64 x.1, .int .i64 x.2]) (KM mb) (fun ys => ys = []) (fun pre => pre <+: []) 0 w := fun n l J Jx W hW hJ hJx hY h0 => by
  refine (callsIn_wide (n := n)).2 ?_
  refine (between1_nil W l bx B1 B2 lo hi ((hW.block bx (blk_lt hb)).trans hb) ((hW.block B1 (blk_lt hb1)).trans hb1) ((hW.block B2 (blk_lt hb2)).trans hb2)).mono ?_
  rintro e W' ⟨hv, hk⟩
  exact ⟨hv, .inl ⟨[], rfl, own_nu hJ h0 hk⟩⟩

/-- the cells are as they were -/
def Cc (X Z : World) : Prop := ∀ (k : Nat) (c : Array Value) (t : TypeId) (m : Nat × Nat), X.heap[k]? = some (.cells c t m) → Z.heap[k]? = some (.cells c t m)
theorem Cc.grown {B : Nat} {X Z : World} {row : Option Nat} (hg : X.grownBy Z row) (hr : ∀ r, row = some r → B ≤ r ∧ ∃ o, X.heap[r]? = some o ∧ o.isCells = false) : Cc X Z := fun k c t m h =>
  (hg.block k (blk_lt h) (fun e => by obtain ⟨_, o, ho, hc⟩ := hr k e.symm; rw [h] at ho; cases ho; cases hc)).trans h
theorem Cc.mp {X Z : World} (h : Cc X Z) {mb : Nat} {t : T (Int × Int)} (hm : Mp X mb t) : Mp Z mb t := by
  obtain ⟨a, h1, h2⟩ := hm.ex
  exact ⟨⟨a, h _ _ _ _ h1, h2.keep (fun b c e => h _ _ _ _ e)⟩, hm.bal, hm.srt⟩
/-- what stands while StoreNoWalk goes on -/
structure Nw (w V : World) (bk br mb bt : Nat) (key n : Int) : Prop where
  k : V.heap[bk]? = some (.cells #[.int .i64 key] 3 (0, 0))
  r : V.heap[br]? = some (.cells #[.bool false] 4 (0, 0))
  m : Mp V mb (.node .nil (key, 5) .nil)
  t : V.heap[bt]? = some (.cells #[.int .i64 n] 3 (0, 0))
theorem Nw.cc {w V Z : World} {bk br mb bt : Nat} {key n : Int} (h : Nw w V bk br mb bt key n) (c : Cc V Z) : Nw w Z bk br mb bt key n :=
  ⟨c _ _ _ _ h.k, c _ _ _ _ h.r, c.mp h.m, c _ _ _ _ h.t⟩
theorem Nw.nu {w V Z : World} {bk br mb bt : Nat} {key n : Int} (h : Nw w V bk br mb bt key n) (k : Kp Nu V Z) : Nw w Z bk br mb bt key n := h.cc (fun b c t m e => (k.block b (blk_lt e) (fun h => h)).trans e)
/-- told is set -/
theorem Nw.set {w V : World} {bk br mb bt : Nat} {key n : Int} (h : Nw w V bk br mb bt key n) (hne : bt ≠ bk) (n' : Int) : Nw w (V.setCell ⟨bt, 0, none⟩ (.int .i64 n')) bk br mb bt key n' := by
  have ho : ∀ k c t m, k ≠ bt → V.heap[k]? = some (.cells c t m) → (V.setCell ⟨bt, 0, none⟩ (.int .i64 n')).heap[k]? = some (.cells c t m) := fun k c t m hk e => (Below.heap_setCell V ⟨bt, 0, none⟩ _ k hk).trans e
  have hdiff : ∀ k c t m, t ≠ 3 → V.heap[k]? = some (.cells c t m) → k ≠ bt := fun k c t m ht e he => by subst he; rw [h.t] at e; cases e; exact ht rfl
  refine ⟨ho _ _ _ _ (fun e => hne e.symm) h.k, ho _ _ _ _ (hdiff _ _ _ _ (by decide) h.r) h.r, ?_, by rw [set3 h.t]; rfl⟩
  obtain ⟨a, h1, h2⟩ := h.m.ex
  exact ⟨⟨a, ho _ _ _ _ (hdiff _ _ _ _ (by decide) h1) h1, h2.keep (fun b c e => ho _ _ _ _ (hdiff _ _ _ _ (by decide) e) e)⟩, h.m.bal, h.m.srt⟩
/-- deferred marks of loops that have ended -/
def Dl (V : World) (B : Nat) (ds : List Deferred) : Prop := ∃ Ls : List Nat, ds = Ls.map (fun D => { target := .collected D, args := #[] }) ∧ Ls.Nodup ∧ ∀ D ∈ Ls, B ≤ D ∧ V.heap[D]? = some (.deferred (some []))
theorem Dl.nil (V : World) (B : Nat) : Dl V B [] := ⟨[], rfl, List.nodup_nil, fun D hD => by cases hD⟩
/-- at the end the marks are taken; cells and the blocks below stay -/
theorem leaves_all {F : Fence} {n : Nat} {fn : Func} {tmps : Array Value} {R : Ending → World → Prop} {B : Nat} : ∀ (Ls : List Nat) (V : World), Ls.Nodup → (∀ D ∈ Ls, B ≤ D ∧ V.heap[D]? = some (.deferred (some []))) →
    (∀ Z, Cc V Z → Kp (fun k => B ≤ k) V Z → LeavesIn F n Try.prog fn tmps R [] .returning Z) → LeavesInM F n Try.prog fn tmps R (Ls.map (fun D => { target := .collected D, args := #[] })) .returning V
  | [], V, _, _, h => h V (fun _ _ _ _ e => e) (Kp.refl _ _)
  | D :: Ls, V, hn, hd, h => by
    obtain ⟨h1, h2⟩ := hd D (by simp)
    rw [List.nodup_cons] at hn
    refine ⟨by simp, .inl ⟨D, V.putObj D (.deferred none), rfl, run_takeDeferred h2, ?_⟩⟩
    refine leaves_all Ls _ hn.2 (fun D' hD' => ⟨(hd D' (by simp [hD'])).1, (World.putObj_heap_other (fun e => by subst e; exact hn.1 hD')).trans (hd D' (by simp [hD'])).2⟩) (fun Z hc hk => h Z ?_ ?_)
    · intro k c t m e
      exact hc k c t m ((World.putObj_heap_other (fun e2 => by subst e2; rw [h2] at e; cases e)).trans e)
    · have k0 : Kp (fun k => B ≤ k) V (V.putObj D (.deferred none)) := ⟨rfl, rfl, rfl, by simp, fun k hk hs => World.putObj_heap_other (fun e => by subst e; exact hs h1)⟩
      exact k0.trans hk (fun _ _ h => h)
/-- the one pair, if it lies between -/
theorem seg_one (key lo hi : Int) (h : lo ≤ key ∧ key ≤ hi) : seg (.node .nil (key, 5) .nil) (lowT lo (.node .nil (key, 5) .nil)) (highT hi (.node .nil (key, (5 : Int)) .nil)) = [(key, 5)] := by
  have e1 : T.fd (sd lo) (.node .nil (key, (5 : Int)) .nil) = (0, decide (lo = key)) := by
    simp only [T.fd, sd, side, cmpI, T.sz]
    by_cases h1 : lo < key
    · have : ¬ lo = key := by omega
      simp [h1, this]
    · have : lo = key := by omega
      simp [this]
  have e2 : highT hi (.node .nil (key, (5 : Int)) .nil) = 1 := by
    unfold highT
    simp only [T.fd, sd, side, cmpI, T.sz]
    by_cases h1 : key < hi
    · have : ¬ hi < key := by omega
      simp [h1, this]
    · have : hi = key := by omega
      simp [this]
  have e3 : lowT lo (.node .nil (key, (5 : Int)) .nil) = 0 := by unfold lowT; rw [e1]
  rw [e2, e3]
  simp [seg, T.sz]
theorem seg_none (key lo hi : Int) (h : ¬ (lo ≤ key ∧ key ≤ hi)) : seg (.node .nil (key, 5) .nil) (lowT lo (.node .nil (key, 5) .nil)) (highT hi (.node .nil (key, (5 : Int)) .nil)) = [] := by
  by_cases h1 : lo ≤ key
  · have h2 : hi < key := by omega
    have e2 : highT hi (.node .nil (key, (5 : Int)) .nil) = 0 := by
      unfold highT
      simp only [T.fd, sd, side, cmpI, T.sz]
      simp [h2]
    rw [e2]; simp [seg]
  · have h2 : key < lo := by omega
    have e3 : lowT lo (.node .nil (key, (5 : Int)) .nil) = 1 := by
      unfold lowT
      simp only [T.fd, sd, side, cmpI, T.sz]
      have : ¬ lo < key := by omega
      simp [h2, this]
    rw [e3]; simp [seg, T.sz]
end Go.Proofs.Ytchealdgncgjoaa.StI
namespace Go.Proofs.Ytchealdgncgjoaa.StI
open Go.RowKit Go.Proofs.Ytchealdgncgjoaa.St Go.Shelf Go.Sort Go.Proofs.Ytchealdgncgjoaa.It
attribute [local go_sem] Oper.semAt_some
set_option linter.unusedVariables false
/-- a tree in memory is told by its root -/
theorem Tr.det {w : World} : ∀ {t t' : T (Int × Int)} {a : Option Addr}, Tr w t a → Tr w t' a → t = t'
  | .nil, .nil, _, _, _ => rfl
  | .nil, .node _ _ _, a, h, h' => by
    obtain ⟨b, _, _, e, _⟩ := h'
    rw [show a = none from h] at e; cases e
  | .node _ _ _, .nil, a, h, h' => by
    obtain ⟨b, _, _, e, _⟩ := h
    rw [show a = none from h'] at e; cases e
  | .node l p r, .node l' p' r', a, h, h' => by
    obtain ⟨b, al, ar, e, hb, hl, hr⟩ := h
    obtain ⟨b', al', ar', e', hb', hl', hr'⟩ := h'
    rw [e] at e'; cases e'
    rw [hb] at hb'
    have hq := congrArg (fun o : Option Obj => match o with | some (.cells c _ _) => c.toList | _ => []) hb'
    simp only [List.cons.injEq, Value.int.injEq, Value.pointer.injEq, true_and] at hq
    obtain ⟨h1, h2, h3, h4, _⟩ := hq
    subst h3 h4
    have ep : p = p' := Prod.ext h1 h2
    rw [ep, Tr.det hl hl', Tr.det hr hr']
theorem Mp.det {w : World} {mb : Nat} {t t' : T (Int × Int)} (h : Mp w mb t) (h' : Mp w mb t') : t = t' := by
  obtain ⟨a, h1, h2⟩ := h.ex
  obtain ⟨a', h1', h2'⟩ := h'.ex
  rw [h1] at h1'
  have e : a = a' := by
    have hq := congrArg (fun o : Option Obj => match o with | some (.cells c _ _) => c.toList | _ => []) h1'
    simp only [List.cons.injEq, Value.pointer.injEq, true_and, and_true] at hq
    exact hq
  subst e
  exact h2.det h2'
theorem has_iff {t : T (Int × Int)} (h : Srt cmpI t.xs) (k : Int) : (T.fd (sd k) t).2 = true ↔ ∃ p ∈ t.xs, p.1 = k := by
  have hf := T.fd_eq (sd k) t (h.c cmpI_ord k)
  rw [hf]
  simp only [List.any_eq_true, decide_eq_true_eq]
  have hz : ∀ p : Int × Int, sd k p = 0 ↔ p.1 = k := fun p => by
    show cmpI k p.1 = 0 ↔ _
    unfold cmpI
    split
    · constructor <;> intro h <;> omega
    · split
      · constructor <;> intro h <;> omega
      · constructor <;> intro h <;> omega
  simp only [hz]
theorem place_of {t : T (Int × Int)} (h : Srt cmpI t.xs) {i : Nat} {p : Int × Int} (hp : t.xs[i]? = some p) : T.fd (sd p.1) t = (i, true) := by
  have hf := T.fd_eq (sd p.1) t (h.c cmpI_ord p.1)
  rw [hf]
  obtain ⟨h1, h2⟩ := h.place cmpI_ord hp (cmpI_ord.zero p.1)
  exact Prod.ext h1 h2
theorem get_mem {t : T (Int × Int)} (h : Srt cmpI t.xs) {p : Int × Int} (hp : p ∈ t.xs) : getT p.1 t = some p ∧ (T.fd (sd p.1) t).2 = true := by
  obtain ⟨i, hi⟩ := List.getElem?_of_mem hp
  have := place_of h hi
  unfold getT
  rw [this]
  exact ⟨by simpa using hi, rfl⟩
theorem nn {P : Program} {w : World} (t : TypeId) {c : Nat} (h : P.underlying t = some (.pointer (P.pointee t))) : (binOp .eql t (.pointer none) (.pointer (some ⟨c, 0, none⟩))).run P w = .ok (.bool false) w := by
  have h0 : ∀ d, (Op.equalIn (d + 1) t (.pointer none) (.pointer (some ⟨c, 0, none⟩))).run P w = .ok false w := fun d => by
    simp [Op.equalIn, run_underlying h, sameAddr]
  have : (Op.equal t (.pointer none) (.pointer (some ⟨c, 0, none⟩))).run P w = .ok false w := h0 9999
  simp only [binOp]
  simp [this]
set_option maxRecDepth 1000000 in
theorem nn128 {w : World} {c : Nat} : (binOp .eql 128 (.pointer none) (.pointer (some ⟨c, 0, none⟩))).run Try.prog w = .ok (.bool false) w := nn 128 Try.underlying128
/-- the blocks that a round keeps: nodes, the boxes of the walk -/
def KL (k : Nat) (t : TypeId) : Prop := t = 136 ∨ t = 22 ∨ t = 128 ∨ t = 31
/-- what the walk stands on, whatever becomes of the map -/
structure El (W : World) (mb bm bt by_ l : Nat) (t : T (Int × Int)) (r0 : Nat) : Prop where
  xm : W.heap[bm]? = some (.cells #[.pointer (some ⟨mb, 0, none⟩)] 22 (0, 0))
  xt : W.heap[bt]? = some (.cells #[.pointer (some ⟨r0, 0, none⟩)] 128 (0, 0))
  xy : W.heap[by_]? = some (.cells #[.func (.yield l) #[] #[]] 31 (0, 0))
  tr : Tr W t (some ⟨r0, 0, none⟩)
  st : Srt cmpI t.xs
theorem kn_kl {W W' : World} (k : Kc KL W W') : Kn W W' := fun b c e => k _ _ _ _ (.inl rfl) e
theorem El.kc {W W' : World} {mb bm bt by_ l : Nat} {t : T (Int × Int)} {r0 : Nat} (h : El W mb bm bt by_ l t r0) (k : Kc KL W W') : El W' mb bm bt by_ l t r0 :=
  ⟨k _ _ _ _ (.inr (.inl rfl)) h.xm, k _ _ _ _ (.inr (.inr (.inl rfl))) h.xt, k _ _ _ _ (.inr (.inr (.inr rfl))) h.xy, h.tr.keep (kn_kl k), h.st⟩
/-- the map now: what a key has -/
def VlM (mb : Nat) (x : Int × Int) (W : World) : Prop := ∃ t2, Mp W mb t2 ∧ getT x.1 t2 = some x
def GnM (mb : Nat) (x : Int × Int) (W : World) : Prop := ∃ t2, Mp W mb t2 ∧ getT x.1 t2 = none
def MmM (mb : Nat) (W : World) : Prop := ∃ t2, Mp W mb t2 ∧ t2.sz + 1 < 2 ^ 62
theorem get_key {t : T (Int × Int)} (h : Srt cmpI t.xs) {k : Int} {q : Int × Int} (hg : getT k t = some q) : q.1 = k ∧ q ∈ t.xs := by
  unfold getT at hg
  split at hg
  · rename_i hf
    obtain ⟨p, hp, e⟩ := (has_iff h k).1 hf
    subst e
    have := get_mem h hp
    have hm : q ∈ t.xs := List.mem_of_getElem? hg
    obtain ⟨h1, h2⟩ := this
    unfold getT at h1
    rw [if_pos hf, hg] at h1
    cases h1
    exact ⟨rfl, hm⟩
  · cases hg
end Go.Proofs.Ytchealdgncgjoaa.StI
