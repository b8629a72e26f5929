import Derived.Test.YtchealdgncgjoaaItGI
import Derived.Test.YtchealdgncgjoaaNlC
namespace Go.Proofs.Ytchealdgncgjoaa.StI
open Go.RowKit Go.Proofs.Ytchealdgncgjoaa.St Go.Shelf Go.Sort Go.Proofs.Ytchealdgncgjoaa.It
attribute [local go_sem] Oper.semAt_some
set_option linter.unusedVariables false

set_option maxHeartbeats 400000 in
theorem span_nil (w : World) (lo hi : Int) : Calls Try.prog 87 #[.pointer none, .pointer none, .int .i64 lo, .int .i64 hi] w fun e w' => e = .returned (.tuple #[.int .i64 0, .int .i64 0]) ∧ w' = w := by
  have FA := find_nil w none lo
  have FB := find_nil w none hi
  go_enter Try.func87, Try.ntmps87
  go_wp2_with (first
    | (go_at_call 78; refine FA.mono ?_; rintro e w' ⟨rfl, hw⟩; obtain rfl := hw.symm; clear FA)
    | (go_at_call 78; refine FB.mono ?_; rintro e w' ⟨rfl, hw⟩; obtain rfl := hw.symm))
  go_ret2
  exact ⟨rfl, rfl⟩
set_option maxRecDepth 100000 in
set_option maxHeartbeats 800000 in
theorem between1_nil (w : World) (l bx B1 B2 : Nat) (lo hi : Int) (hb : w.heap[bx]? = some (.cells #[.pointer none] 22 (0, 0))) (hb1 : w.heap[B1]? = some (.cells #[.int .i64 lo] 3 (0, 0))) (hb2 : w.heap[B2]? = some (.cells #[.int .i64 hi] 3 (0, 0))) :
    Calls Try.prog 86 #[.func (.yield l) #[] #[], .pointer (some ⟨bx, 0, none⟩), .pointer (some ⟨B1, 0, none⟩), .pointer (some ⟨B2, 0, none⟩)] w fun e w' => (∃ v, e = .returned v) ∧ Kp Nu w w' := by
  have TA := tree_nil w
  have SN := span_nil w lo hi
  have TN := tell_empty w none 0 0 l
  have c0 := cell1 hb
  have c1 := cell1 hb1
  have c2 := cell1 hb2
  clear hb hb1 hb2
  go_enter Try.func86, Try.ntmps86
  go_wp2_with (first
    | (go_at_call 83; refine TA.mono ?_; rintro e w' ⟨rfl, hw⟩; obtain rfl := hw.symm)
    | (go_at_call 87; refine SN.mono ?_; rintro e w' ⟨rfl, hw⟩; obtain rfl := hw.symm)
    | (go_at_call 84; refine TN.mono ?_; rintro e w2 ⟨⟨v2, rfl⟩, k2⟩))
  go_end0
  exact ⟨⟨_, rfl⟩, k2⟩
theorem all_q0 (mb bx : Nat) (w : World) (hb : w.heap[bx]? = some (.cells #[.pointer none] 22 (0, 0))) :
    SeqQ Try.prog 82 #[.pointer (some ⟨bx, 0, none⟩)] (fun x : Int × Int => #[.int .i64 x.1, .int .i64 x.2]) (KM mb) (fun ys => ys = []) (fun pre => pre <+: []) 0 w := fun n l J Jx W hW hJ hJx hY h0 => by
  refine (callsIn_wide (n := n)).2 ?_
  refine (all1_nil W l bx ((hW.block bx (blk_lt hb)).trans hb)).mono ?_
  rintro e W' ⟨hv, hk⟩
  exact ⟨hv, .inl ⟨[], rfl, own_nu hJ h0 hk⟩⟩
theorem between_q0 (mb bx B1 B2 : Nat) (w : World) (lo hi : Int) (hb : w.heap[bx]? = some (.cells #[.pointer none] 22 (0, 0))) (hb1 : w.heap[B1]? = some (.cells #[.int .i64 lo] 3 (0, 0))) (hb2 : w.heap[B2]? = some (.cells #[.int .i64 hi] 3 (0, 0))) :
    SeqQ Try.prog 86 #[.pointer (some ⟨bx, 0, none⟩), .pointer (some ⟨B1, 0, none⟩), .pointer (some ⟨B2, 0, none⟩)] (fun x : Int × Int => #[.int .i64 x.1, .int .i64 x.2]) (KM mb) (fun ys => ys = []) (fun pre => pre <+: []) 0 w := fun n l J Jx W hW hJ hJx hY h0 => by
  refine (callsIn_wide (n := n)).2 ?_
  refine (between1_nil W l bx B1 B2 lo hi ((hW.block bx (blk_lt hb)).trans hb) ((hW.block B1 (blk_lt hb1)).trans hb1) ((hW.block B2 (blk_lt hb2)).trans hb2)).mono ?_
  rintro e W' ⟨hv, hk⟩
  exact ⟨hv, .inl ⟨[], rfl, own_nu hJ h0 hk⟩⟩

/-- the cells are as they were -/
def Cc (X Z : World) : Prop := ∀ (k : Nat) (c : Array Value) (t : TypeId) (m : Nat × Nat), X.heap[k]? = some (.cells c t m) → Z.heap[k]? = some (.cells c t m)
theorem Cc.grown {B : Nat} {X Z : World} {row : Option Nat} (hg : X.grownBy Z row) (hr : ∀ r, row = some r → B ≤ r ∧ ∃ o, X.heap[r]? = some o ∧ o.isCells = false) : Cc X Z := fun k c t m h =>
  (hg.block k (blk_lt h) (fun e => by obtain ⟨_, o, ho, hc⟩ := hr k e.symm; rw [h] at ho; cases ho; cases hc)).trans h
theorem Cc.mp {X Z : World} (h : Cc X Z) {mb : Nat} {t : T (Int × Int)} (hm : Mp X mb t) : Mp Z mb t := by
  obtain ⟨a, h1, h2⟩ := hm.ex
  exact ⟨⟨a, h _ _ _ _ h1, h2.keep (fun b c e => h _ _ _ _ e)⟩, hm.bal, hm.srt⟩
/-- what stands while StoreNoWalk goes on -/
structure Nw (w V : World) (bk br mb bt : Nat) (key n : Int) : Prop where
  k : V.heap[bk]? = some (.cells #[.int .i64 key] 3 (0, 0))
  r : V.heap[br]? = some (.cells #[.bool false] 4 (0, 0))
  m : Mp V mb (.node .nil (key, 5) .nil)
  t : V.heap[bt]? = some (.cells #[.int .i64 n] 3 (0, 0))
theorem Nw.cc {w V Z : World} {bk br mb bt : Nat} {key n : Int} (h : Nw w V bk br mb bt key n) (c : Cc V Z) : Nw w Z bk br mb bt key n :=
  ⟨c _ _ _ _ h.k, c _ _ _ _ h.r, c.mp h.m, c _ _ _ _ h.t⟩
theorem Nw.nu {w V Z : World} {bk br mb bt : Nat} {key n : Int} (h : Nw w V bk br mb bt key n) (k : Kp Nu V Z) : Nw w Z bk br mb bt key n := h.cc (fun b c t m e => (k.block b (blk_lt e) (fun h => h)).trans e)
/-- told is set -/
theorem Nw.set {w V : World} {bk br mb bt : Nat} {key n : Int} (h : Nw w V bk br mb bt key n) (hne : bt ≠ bk) (n' : Int) : Nw w (V.setCell ⟨bt, 0, none⟩ (.int .i64 n')) bk br mb bt key n' := by
  have ho : ∀ k c t m, k ≠ bt → V.heap[k]? = some (.cells c t m) → (V.setCell ⟨bt, 0, none⟩ (.int .i64 n')).heap[k]? = some (.cells c t m) := fun k c t m hk e => (Below.heap_setCell V ⟨bt, 0, none⟩ _ k hk).trans e
  have hdiff : ∀ k c t m, t ≠ 3 → V.heap[k]? = some (.cells c t m) → k ≠ bt := fun k c t m ht e he => by subst he; rw [h.t] at e; cases e; exact ht rfl
  refine ⟨ho _ _ _ _ (fun e => hne e.symm) h.k, ho _ _ _ _ (hdiff _ _ _ _ (by decide) h.r) h.r, ?_, by rw [set3 h.t]; rfl⟩
  obtain ⟨a, h1, h2⟩ := h.m.ex
  exact ⟨⟨a, ho _ _ _ _ (hdiff _ _ _ _ (by decide) h1) h1, h2.keep (fun b c e => ho _ _ _ _ (hdiff _ _ _ _ (by decide) e) e)⟩, h.m.bal, h.m.srt⟩
/-- deferred marks of loops that have ended -/
def Dl (V : World) (B : Nat) (ds : List Deferred) : Prop := ∃ Ls : List Nat, ds = Ls.map (fun D => { target := .collected D, args := #[] }) ∧ Ls.Nodup ∧ ∀ D ∈ Ls, B ≤ D ∧ V.heap[D]? = some (.deferred (some []))
theorem Dl.nil (V : World) (B : Nat) : Dl V B [] := ⟨[], rfl, List.nodup_nil, fun D hD => by cases hD⟩
/-- at the end the marks are taken; cells and the blocks below stay -/
theorem leaves_all {F : Fence} {n : Nat} {fn : Func} {tmps : Array Value} {R : Ending → World → Prop} {B : Nat} : ∀ (Ls : List Nat) (V : World), Ls.Nodup → (∀ D ∈ Ls, B ≤ D ∧ V.heap[D]? = some (.deferred (some []))) →
    (∀ Z, Cc V Z → Kp (fun k => B ≤ k) V Z → LeavesIn F n Try.prog fn tmps R [] .returning Z) → LeavesInM F n Try.prog fn tmps R (Ls.map (fun D => { target := .collected D, args := #[] })) .returning V
  | [], V, _, _, h => h V (fun _ _ _ _ e => e) (Kp.refl _ _)
  | D :: Ls, V, hn, hd, h => by
    obtain ⟨h1, h2⟩ := hd D (by simp)
    rw [List.nodup_cons] at hn
    refine ⟨by simp, .inl ⟨D, V.putObj D (.deferred none), rfl, run_takeDeferred h2, ?_⟩⟩
    refine leaves_all Ls _ hn.2 (fun D' hD' => ⟨(hd D' (by simp [hD'])).1, (World.putObj_heap_other (fun e => by subst e; exact hn.1 hD')).trans (hd D' (by simp [hD'])).2⟩) (fun Z hc hk => h Z ?_ ?_)
    · intro k c t m e
      exact hc k c t m ((World.putObj_heap_other (fun e2 => by subst e2; rw [h2] at e; cases e)).trans e)
    · have k0 : Kp (fun k => B ≤ k) V (V.putObj D (.deferred none)) := ⟨rfl, rfl, rfl, by simp, fun k hk hs => World.putObj_heap_other (fun e => by subst e; exact hs h1)⟩
      exact k0.trans hk (fun _ _ h => h)
/-- the one pair, if it lies between -/
theorem seg_one (key lo hi : Int) (h : lo ≤ key ∧ key ≤ hi) : seg (.node .nil (key, 5) .nil) (lowT lo (.node .nil (key, 5) .nil)) (highT hi (.node .nil (key, (5 : Int)) .nil)) = [(key, 5)] := by
  have e1 : T.fd (sd lo) (.node .nil (key, (5 : Int)) .nil) = (0, decide (lo = key)) := by
    simp only [T.fd, sd, side, cmpI, T.sz]
    by_cases h1 : lo < key
    · have : ¬ lo = key := by omega
      simp [h1, this]
    · have : lo = key := by omega
      simp [this]
  have e2 : highT hi (.node .nil (key, (5 : Int)) .nil) = 1 := by
    unfold highT
    simp only [T.fd, sd, side, cmpI, T.sz]
    by_cases h1 : key < hi
    · have : ¬ hi < key := by omega
      simp [h1, this]
    · have : hi = key := by omega
      simp [this]
  have e3 : lowT lo (.node .nil (key, (5 : Int)) .nil) = 0 := by unfold lowT; rw [e1]
  rw [e2, e3]
  simp [seg, T.sz]
theorem seg_none (key lo hi : Int) (h : ¬ (lo ≤ key ∧ key ≤ hi)) : seg (.node .nil (key, 5) .nil) (lowT lo (.node .nil (key, 5) .nil)) (highT hi (.node .nil (key, (5 : Int)) .nil)) = [] := by
  by_cases h1 : lo ≤ key
  · have h2 : hi < key := by omega
    have e2 : highT hi (.node .nil (key, (5 : Int)) .nil) = 0 := by
      unfold highT
      simp only [T.fd, sd, side, cmpI, T.sz]
      simp [h2]
    rw [e2]; simp [seg]
  · have h2 : key < lo := by omega
    have e3 : lowT lo (.node .nil (key, (5 : Int)) .nil) = 1 := by
      unfold lowT
      simp only [T.fd, sd, side, cmpI, T.sz]
      have : ¬ lo < key := by omega
      simp [h2, this]
    rw [e3]; simp [seg, T.sz]
end Go.Proofs.Ytchealdgncgjoaa.StI
