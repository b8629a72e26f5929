import Derived.Test.YtchealdgncgjoaaPqN
import Derived.Test.YtchealdgncgjoaaItL
import Derived.Test.YtchealdgncgjoaaNwB
import Derived.Sort.CutIn
namespace Go.Proofs.Ytchealdgncgjoaa.StI
open Go.RowKit Go.Proofs.Ytchealdgncgjoaa.St Go.Shelf Go.Sort Go.Proofs.Ytchealdgncgjoaa.It
attribute [local go_sem] Oper.semAt_some
set_option linter.unusedVariables false
/-- a tree in memory is told by its root -/
theorem Tr.det {w : World} : ∀ {t t' : T (Int × Int)} {a : Option Addr}, Tr w t a → Tr w t' a → t = t'
  | .nil, .nil, _, _, _ => rfl
  | .nil, .node _ _ _, a, h, h' => by
    obtain ⟨b, _, _, e, _⟩ := h'
    rw [show a = none from h] at e; cases e
  | .node _ _ _, .nil, a, h, h' => by
    obtain ⟨b, _, _, e, _⟩ := h
    rw [show a = none from h'] at e; cases e
  | .node l p r, .node l' p' r', a, h, h' => by
    obtain ⟨b, al, ar, e, hb, hl, hr⟩ := h
    obtain ⟨b', al', ar', e', hb', hl', hr'⟩ := h'
    rw [e] at e'; cases e'
    rw [hb] at hb'
    have hq := congrArg (fun o : Option Obj => match o with | some (.cells c _ _) => c.toList | _ => []) hb'
    simp only [List.cons.injEq, Value.int.injEq, Value.pointer.injEq, true_and] at hq
    obtain ⟨h1, h2, h3, h4, _⟩ := hq
    subst h3 h4
    have ep : p = p' := Prod.ext h1 h2
    rw [ep, Tr.det hl hl', Tr.det hr hr']
theorem Mp.det {w : World} {mb : Nat} {t t' : T (Int × Int)} (h : Mp w mb t) (h' : Mp w mb t') : t = t' := by
  obtain ⟨a, h1, h2⟩ := h.ex
  obtain ⟨a', h1', h2'⟩ := h'.ex
  rw [h1] at h1'
  have e : a = a' := by
    have hq := congrArg (fun o : Option Obj => match o with | some (.cells c _ _) => c.toList | _ => []) h1'
    simp only [List.cons.injEq, Value.pointer.injEq, true_and, and_true] at hq
    exact hq
  subst e
  exact h2.det h2'
theorem has_iff {t : T (Int × Int)} (h : Srt cmpI t.xs) (k : Int) : (T.fd (sd k) t).2 = true ↔ ∃ p ∈ t.xs, p.1 = k := by
  have hf := T.fd_eq (sd k) t (h.c cmpI_ord k)
  rw [hf]
  simp only [List.any_eq_true, decide_eq_true_eq]
  have hz : ∀ p : Int × Int, sd k p = 0 ↔ p.1 = k := fun p => by
    show cmpI k p.1 = 0 ↔ _
    unfold cmpI
    split
    · constructor <;> intro h <;> omega
    · split
      · constructor <;> intro h <;> omega
      · constructor <;> intro h <;> omega
  simp only [hz]
theorem place_of {t : T (Int × Int)} (h : Srt cmpI t.xs) {i : Nat} {p : Int × Int} (hp : t.xs[i]? = some p) : T.fd (sd p.1) t = (i, true) := by
  have hf := T.fd_eq (sd p.1) t (h.c cmpI_ord p.1)
  rw [hf]
  obtain ⟨h1, h2⟩ := h.place cmpI_ord hp (cmpI_ord.zero p.1)
  exact Prod.ext h1 h2
theorem get_mem {t : T (Int × Int)} (h : Srt cmpI t.xs) {p : Int × Int} (hp : p ∈ t.xs) : getT p.1 t = some p ∧ (T.fd (sd p.1) t).2 = true := by
  obtain ⟨i, hi⟩ := List.getElem?_of_mem hp
  have := place_of h hi
  unfold getT
  rw [this]
  exact ⟨by simpa using hi, rfl⟩
theorem nn {P : Program} {w : World} (t : TypeId) {c : Nat} (h : P.underlying t = some (.pointer (P.pointee t))) : (binOp .eql t (.pointer none) (.pointer (some ⟨c, 0, none⟩))).run P w = .ok (.bool false) w := by
  have h0 : ∀ d, (Op.equalIn (d + 1) t (.pointer none) (.pointer (some ⟨c, 0, none⟩))).run P w = .ok false w := fun d => by
    simp [Op.equalIn, run_underlying h, sameAddr]
  have : (Op.equal t (.pointer none) (.pointer (some ⟨c, 0, none⟩))).run P w = .ok false w := h0 9999
  simp only [binOp]
  simp [this]
set_option maxRecDepth 1000000 in
theorem nn128 {w : World} {c : Nat} : (binOp .eql 128 (.pointer none) (.pointer (some ⟨c, 0, none⟩))).run Try.prog w = .ok (.bool false) w := nn 128 Try.underlying128
/-- the blocks that a round keeps: nodes, the boxes of the walk -/
def KL (k : Nat) (t : TypeId) : Prop := t = 136 ∨ t = 22 ∨ t = 128 ∨ t = 31
/-- what the walk stands on, whatever becomes of the map -/
structure El (W : World) (mb bm bt by_ l : Nat) (t : T (Int × Int)) (r0 : Nat) : Prop where
  xm : W.heap[bm]? = some (.cells #[.pointer (some ⟨mb, 0, none⟩)] 22 (0, 0))
  xt : W.heap[bt]? = some (.cells #[.pointer (some ⟨r0, 0, none⟩)] 128 (0, 0))
  xy : W.heap[by_]? = some (.cells #[.func (.yield l) #[] #[]] 31 (0, 0))
  tr : Tr W t (some ⟨r0, 0, none⟩)
  st : Srt cmpI t.xs
theorem kn_kl {W W' : World} (k : Kc KL W W') : Kn W W' := fun b c e => k _ _ _ _ (.inl rfl) e
theorem El.kc {W W' : World} {mb bm bt by_ l : Nat} {t : T (Int × Int)} {r0 : Nat} (h : El W mb bm bt by_ l t r0) (k : Kc KL W W') : El W' mb bm bt by_ l t r0 :=
  ⟨k _ _ _ _ (.inr (.inl rfl)) h.xm, k _ _ _ _ (.inr (.inr (.inl rfl))) h.xt, k _ _ _ _ (.inr (.inr (.inr rfl))) h.xy, h.tr.keep (kn_kl k), h.st⟩
/-- the map now: what a key has -/
def VlM (mb : Nat) (x : Int × Int) (W : World) : Prop := ∃ t2, Mp W mb t2 ∧ getT x.1 t2 = some x
def GnM (mb : Nat) (x : Int × Int) (W : World) : Prop := ∃ t2, Mp W mb t2 ∧ getT x.1 t2 = none
def MmM (mb : Nat) (W : World) : Prop := ∃ t2, Mp W mb t2 ∧ t2.sz + 1 < 2 ^ 62
theorem get_key {t : T (Int × Int)} (h : Srt cmpI t.xs) {k : Int} {q : Int × Int} (hg : getT k t = some q) : q.1 = k ∧ q ∈ t.xs := by
  unfold getT at hg
  split at hg
  · rename_i hf
    obtain ⟨p, hp, e⟩ := (has_iff h k).1 hf
    subst e
    have := get_mem h hp
    have hm : q ∈ t.xs := List.mem_of_getElem? hg
    obtain ⟨h1, h2⟩ := this
    unfold getT at h1
    rw [if_pos hf, hg] at h1
    cases h1
    exact ⟨rfl, hm⟩
  · cases hg
end Go.Proofs.Ytchealdgncgjoaa.StI
