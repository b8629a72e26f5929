import Derived.Test.YtffcnonhhfhlhaaDoorWkE
import Derived.WalkMore
namespace Go.Proofs.YtffcnonhhfhlhaaDoor.Rg
set_option linter.unusedVariables false

theorem ow_in {L : List Sg} (hL : Tab L) {i : Nat} {t : Sg} (ht : L[i]? = some t) {k : Int} (h1 : t.lo ≤ k) (h2 : k ≤ t.hi) : ow L k = t.h := by
  have key : ∀ {L : List Sg} {a b : Int} (i : Nat), Cov a L b → L[i]? = some t → ow L k = t.h := by
    intro L
    induction L with
    | nil => intro a b i h hi; simp at hi
    | cons s r ih =>
      intro a b i h hi
      cases i with
      | zero => simp at hi; subst hi; simp only [ow]; rw [if_pos h2]
      | succ i =>
        have hm := cov_mem h.2.2 t (List.mem_of_getElem? (by simpa using hi))
        simp only [ow]
        rw [if_neg (by omega)]
        exact ih i h.2.2 (by simpa using hi)
  exact key i hL.cov ht
structure Cg where
  lo : Int
  hi : Int
  f : Int
  t : Int
def dx (x : Sg) : List Sg → List Cg × Nat
  | [] => ([], 0)
  | y :: r => if y.hi < x.lo then ((dx x r).1, (dx x r).2 + 1) else
      if x.hi ≤ y.hi then ((if x.h = y.h then [] else [⟨max x.lo y.lo, min x.hi y.hi, x.h, y.h⟩]), 0)
      else ((if x.h = y.h then [] else [⟨max x.lo y.lo, min x.hi y.hi, x.h, y.h⟩]) ++ (dx x r).1, (dx x r).2 + 1)
def dst (E : List Sg) (A : List Sg) : Nat × List Cg := A.foldl (fun s x => (s.1 + (dx x (E.drop s.1)).2, s.2 ++ (dx x (E.drop s.1)).1)) (0, [])
theorem dst_snoc (E A : List Sg) (x : Sg) : dst E (A ++ [x]) = ((dst E A).1 + (dx x (E.drop (dst E A).1)).2, (dst E A).2 ++ (dx x (E.drop (dst E A).1)).1) := by
  simp [dst]
/-- what a change says -/
structure Chg (x : Sg) (F : List Sg) (m : Int) (c : Cg) : Prop where
  lo : m ≤ c.lo
  le : c.lo ≤ c.hi
  hi : c.hi ≤ x.hi
  f : c.f = x.h
  ne : c.f ≠ c.t
  own : ∀ k, c.lo ≤ k → k ≤ c.hi → ow F k = c.t
  max : c.hi = x.hi ∨ ow F (c.hi + 1) ≠ c.t
def Rise : List Cg → Prop
  | [] => True
  | [_] => True
  | c :: d :: r => c.hi < d.lo ∧ Rise (d :: r)
theorem rise_cons {c : Cg} {r : List Cg} (h : ∀ d ∈ r, c.hi < d.lo) (hr : Rise r) : Rise (c :: r) := by
  cases r with
  | nil => exact trivial
  | cons d r => exact ⟨h d (by simp), hr⟩
theorem rise_append : ∀ {a b : List Cg}, Rise a → Rise b → (∀ c ∈ a, ∀ d ∈ b, c.hi < d.lo) → Rise (a ++ b)
  | [], b, ha, hb, h => hb
  | [c], b, ha, hb, h => rise_cons (fun d hd => h c (by simp) d hd) hb
  | c :: d :: a, b, ha, hb, h => ⟨ha.1, rise_append (a := d :: a) ha.2 hb (fun x hx => h x (List.mem_cons_of_mem _ hx))⟩
theorem dx_facts (x : Sg) : ∀ {F : List Sg} {e b : Int}, Cov e F b → Alt F → x.lo ≤ x.hi → e ≤ x.hi → x.hi < b →
    (∀ c ∈ (dx x F).1, Chg x F (max x.lo e) c) ∧ Rise (dx x F).1 ∧ (∀ k, max x.lo e ≤ k → k ≤ x.hi → ow F k ≠ x.h → ∃ c ∈ (dx x F).1, c.lo ≤ k ∧ k ≤ c.hi) ∧ (dx x F).2 < F.length ∧ (∃ e', Cov e' (F.drop (dx x F).2) b ∧ e' ≤ x.hi)
  | [], e, b, h, hA, hl, he, hb => by have q : e = b := h; omega
  | y :: r, e, b, h, hA, hl, he, hb => by
    obtain ⟨g1, g2, g3⟩ := h
    have gl := cov_le g3
    have hAr : Alt r := by cases r with
      | nil => exact trivial
      | cons z r => exact hA.2
    have hnext : y.hi + 1 < b → ow r (y.hi + 1) ≠ y.h := by
      intro hlt
      cases r with
      | nil => have q : y.hi + 1 = b := g3; omega
      | cons z r =>
        simp only [ow]
        rw [if_pos (by have := g3.2.1; omega)]
        exact fun q => hA.1 q.symm
    simp only [dx]
    by_cases e1 : y.hi < x.lo
    · rw [if_pos e1]
      obtain ⟨i1, i2, i3, i4, e', i5, i6⟩ := dx_facts x g3 hAr hl (by omega) hb
      refine ⟨fun c hc => ?_, i2, fun k h1 h2 h3 => ?_, by simp; omega, e', by simpa using i5, i6⟩
      · obtain ⟨j1, j2, j3, j4, j5, j6, j7⟩ := i1 c hc
        refine ⟨by omega, j2, j3, j4, j5, fun k k1 k2 => ?_, ?_⟩
        · simp only [ow]; rw [if_neg (by omega)]; exact j6 k k1 k2
        · rcases j7 with j7 | j7
          · exact .inl j7
          · right; simp only [ow]; rw [if_neg (by omega)]; exact j7
      · simp only [ow] at h3
        rw [if_neg (by omega)] at h3
        exact i3 k (by omega) h2 h3
    · rw [if_neg e1]
      have own0 : ∀ k, k ≤ y.hi → ow (y :: r) k = y.h := fun k hk => by simp only [ow]; rw [if_pos hk]
      by_cases e2 : x.hi ≤ y.hi
      · rw [if_pos e2]
        by_cases e3 : x.h = y.h
        · rw [if_pos e3]
          exact ⟨by simp, trivial, fun k h1 h2 h3 => absurd (by rw [own0 k (by omega), e3]) h3, by simp, e, ⟨g1, g2, g3⟩, he⟩
        · rw [if_neg e3]
          refine ⟨fun c hc => ?_, trivial, fun k h1 h2 h3 => ⟨⟨max x.lo y.lo, min x.hi y.hi, x.h, y.h⟩, by simp, by simp only; omega, by simp only; omega⟩, by simp, e, ⟨g1, g2, g3⟩, he⟩
          simp at hc
          subst hc
          exact ⟨by simp only; omega, by simp only; omega, by simp only; omega, rfl, e3, fun k k1 k2 => own0 k (by simp only at k2; omega), .inl (by simp only; omega)⟩
      · rw [if_neg e2]
        obtain ⟨i1, i2, i3, i4, e', i5, i6⟩ := dx_facts x g3 hAr hl (by omega) hb
        have i1' : ∀ c ∈ (dx x r).1, Chg x (y :: r) (max x.lo e) c := fun c hc => by
          obtain ⟨j1, j2, j3, j4, j5, j6, j7⟩ := i1 c hc
          refine ⟨by omega, j2, j3, j4, j5, fun k k1 k2 => ?_, ?_⟩
          · simp only [ow]; rw [if_neg (by omega)]; exact j6 k k1 k2
          · rcases j7 with j7 | j7
            · exact .inl j7
            · right; simp only [ow]; rw [if_neg (by omega)]; exact j7
        have d1 : ∀ k, max x.lo e ≤ k → k ≤ x.hi → y.hi < k → ow (y :: r) k ≠ x.h → ∃ c ∈ (dx x r).1, c.lo ≤ k ∧ k ≤ c.hi := fun k h1 h2 h4 h3 => by
          simp only [ow] at h3
          rw [if_neg (by omega)] at h3
          exact i3 k (by omega) h2 h3
        by_cases e3 : x.h = y.h
        · rw [if_pos e3]
          refine ⟨i1', i2, fun k h1 h2 h3 => ?_, by simp; omega, e', by simpa using i5, i6⟩
          by_cases h4 : k ≤ y.hi
          · exact absurd (by rw [own0 k h4, e3]) h3
          · exact d1 k h1 h2 (by omega) h3
        · rw [if_neg e3]
          refine ⟨fun c hc => ?_, rise_append trivial i2 (fun c hc d hd => ?_), fun k h1 h2 h3 => ?_, by simp; omega, e', by simpa using i5, i6⟩
          · rcases List.mem_append.1 hc with hc | hc
            · simp at hc
              subst hc
              refine ⟨by simp only; omega, by simp only; omega, by simp only; omega, rfl, e3, fun k k1 k2 => own0 k (by simp only at k2; omega), .inr ?_⟩
              have q : min x.hi y.hi = y.hi := by omega
              simp only [q, ow]
              rw [if_neg (by omega)]
              exact hnext (by omega)
            · exact i1' c hc
          · simp at hc
            subst hc
            have := (i1 d hd).lo
            simp only; omega
          · by_cases h4 : k ≤ y.hi
            · exact ⟨⟨max x.lo y.lo, min x.hi y.hi, x.h, y.h⟩, List.mem_append_left _ (by simp), by simp only; omega, by simp only; omega⟩
            · obtain ⟨c, hc, h5⟩ := d1 k h1 h2 (by omega) h3
              exact ⟨c, List.mem_append_right _ hc, h5⟩
/-- the changes from A to E -/
structure Chs (A E : List Sg) (m : Int) (C : List Cg) : Prop where
  rise : Rise C
  all : ∀ c ∈ C, 0 ≤ c.lo ∧ c.lo ≤ c.hi ∧ c.hi < m ∧ c.f ≠ c.t ∧ (∀ k, c.lo ≤ k → k ≤ c.hi → ow A k = c.f ∧ ow E k = c.t) ∧ (c.hi + 1 < 18446744073709551616 → ow A (c.hi + 1) ≠ c.f ∨ ow E (c.hi + 1) ≠ c.t)
  cover : ∀ k, 0 ≤ k → k < m → ow A k ≠ ow E k → ∃ c ∈ C, c.lo ≤ k ∧ k ≤ c.hi
theorem ow_drop : ∀ {E : List Sg} {a b : Int} (p : Nat) {e : Int}, Cov a E b → Cov e (E.drop p) b → p < E.length → ∀ k, e ≤ k → ow (E.drop p) k = ow E k
  | [], a, b, p, e, h, h2, hp, k, hk => by simp at hp
  | y :: r, a, b, 0, e, h, h2, hp, k, hk => rfl
  | y :: r, a, b, p + 1, e, h, h2, hp, k, hk => by
    have ih := ow_drop (E := r) p h.2.2 (by simpa using h2) (by simpa using hp) k hk
    have hle : y.hi + 1 ≤ e := by
      have key : ∀ {F : List Sg} {x z d : Int} (q : Nat), Cov x F z → Cov d (F.drop q) z → q < F.length → x ≤ d := by
        intro F
        induction F with
        | nil => intro x z d q h1 h2 h3; simp at h3
        | cons s F ih =>
          intro x z d q h1 h2 h3
          cases q with
          | zero => have := h2.1; have := h1.1; simp at *; omega
          | succ q => have := ih q h1.2.2 (by simpa using h2) (by simpa using h3); have := h1.2.1; omega
      exact key p h.2.2 (by simpa using h2) (by simpa using hp)
    simp only [List.drop_succ_cons, ow]
    rw [if_neg (by omega)]
    exact ih
theorem alt_drop : ∀ {E : List Sg} (p : Nat), Alt E → Alt (E.drop p)
  | E, 0, h => h
  | [], p + 1, h => trivial
  | [y], p + 1, h => by simp; exact trivial
  | y :: z :: r, p + 1, h => by simpa using alt_drop (E := z :: r) p h.2
theorem dst_facts {A E : List Sg} (hA : Tab A) (hE : Tab E) : ∀ (n : Nat), n ≤ A.length → ∃ m, Cov 0 (A.take n) m ∧ Chs A E m (dst E (A.take n)).2 ∧ (dst E (A.take n)).1 < E.length ∧ (∃ e, Cov e (E.drop (dst E (A.take n)).1) 18446744073709551616 ∧ e ≤ m)
  | 0, h => ⟨0, rfl, ⟨trivial, by simp [dst], fun k h1 h2 => by omega⟩, by simpa [dst] using hE.ne, 0, by simpa [dst] using hE.cov, by omega⟩
  | n + 1, h => by
    obtain ⟨m, c1, c2, c3, e, c4, c5⟩ := dst_facts hA hE n (by omega)
    obtain ⟨x, hx⟩ : ∃ x, A[n]? = some x := ⟨_, List.getElem?_eq_getElem (by omega)⟩
    obtain ⟨t1, t2, t3⟩ := cov_take hA.cov hx
    have em : m = x.lo := by
      have key : ∀ {F : List Sg} {a b c : Int}, Cov a F b → Cov a F c → b = c := by
        intro F
        induction F with
        | nil => intro a b c h1 h2; have e1 : a = b := h1; have e2 : a = c := h2; omega
        | cons q F ih => intro a b c h1 h2; exact ih h1.2.2 h2.2.2
      exact key c1 t1
    subst em
    have et : A.take (n + 1) = A.take n ++ [x] := by rw [List.take_add_one, hx]; rfl
    have hm0 := cov_le c1
    obtain ⟨i1, i2, i3, i4, e', i5, i6⟩ := dx_facts x c4 (alt_drop _ hE.alt) t2 (by omega) t3
    have hod := ow_drop _ hE.cov c4 c3
    rw [et, dst_snoc]
    refine ⟨x.hi + 1, cov_snoc c1 rfl t2, ⟨?_, ?_, ?_⟩, ?_, e', ?_, by omega⟩
    · refine rise_append c2.rise i2 (fun c hc d hd => ?_)
      have h1 := (c2.all c hc).2.2.1
      have h2 := (i1 d hd).lo
      omega
    · intro c hc
      rcases List.mem_append.1 hc with hc | hc
      · obtain ⟨a1, a2, a3, a4, a5, a6⟩ := c2.all c hc
        exact ⟨a1, a2, by omega, a4, a5, a6⟩
      · obtain ⟨j1, j2, j3, j4, j5, j6, j7⟩ := i1 c hc
        refine ⟨by omega, j2, by omega, j5, fun k k1 k2 => ⟨?_, ?_⟩, fun hlt => ?_⟩
        · rw [j4]; exact ow_in hA hx (by omega) (by omega)
        · rw [← hod k (by omega)]; exact j6 k k1 k2
        · by_cases q : c.hi = x.hi
          · left
            rw [j4, q]
            have hAx : A[n + 1]? ≠ none := by
              intro hn
              have hlen : A.length = n + 1 := by
                have := List.getElem?_eq_none_iff.1 hn
                omega
              have hc2 := hA.cov
              rw [← List.take_of_length_le (by omega : A.length ≤ n + 1), et] at hc2
              have := cov_last hc2
              omega
            obtain ⟨z, hz⟩ : ∃ z, A[n + 1]? = some z := by
              cases hzz : A[n + 1]? with
              | none => exact absurd hzz hAx
              | some z => exact ⟨z, rfl⟩
            obtain ⟨z1, z2, z3⟩ := cov_take hA.cov hz
            have ez : z.lo = x.hi + 1 := by
              rw [et] at z1
              have := cov_last z1
              omega
            rw [ow_in hA hz (by omega) (by omega)]
            have key : ∀ {F : List Sg} (i : Nat), Alt F → F[i]? = some x → F[i + 1]? = some z → z.h ≠ x.h := by
              intro F
              induction F with
              | nil => intro i h1 h2; simp at h2
              | cons s F ih =>
                intro i h1 h2 h3
                cases i with
                | zero =>
                  cases F with
                  | nil => simp at h3
                  | cons s2 F => simp at h2 h3; subst h2 h3; exact fun q => h1.1 q.symm
                | succ i =>
                  cases F with
                  | nil => simp at h2
                  | cons s2 F => exact ih i h1.2 (by simpa using h2) (by simpa using h3)
            exact key n hA.alt hx hz
          · right
            rcases j7 with j7 | j7
            · exact absurd j7 q
            · rw [hod (c.hi + 1) (by omega)] at j7; exact j7
    · intro k k0 k1 k2
      by_cases q : k < x.lo
      · obtain ⟨c, hc, h5⟩ := c2.cover k k0 q k2
        exact ⟨c, List.mem_append_left _ hc, h5⟩
      · obtain ⟨c, hc, h5⟩ := i3 k (by omega) (by omega) (by rw [hod k (by omega)]; exact fun z => k2 ((ow_in hA hx (by omega) (by omega)).trans z.symm))
        exact ⟨c, List.mem_append_right _ hc, h5⟩
    · rw [List.length_drop] at i4; omega
    · rw [← List.drop_drop]; exact i5
theorem diff_facts {A E : List Sg} (hA : Tab A) (hE : Tab E) : Chs A E 18446744073709551616 (dst E A).2 := by
  obtain ⟨m, c1, c2, c3, _⟩ := dst_facts hA hE A.length (Nat.le_refl _)
  rw [List.take_of_length_le (Nat.le_refl _)] at c1 c2
  have key : ∀ {F : List Sg} {a b c : Int}, Cov a F b → Cov a F c → b = c := by
    intro F
    induction F with
    | nil => intro a b c h1 h2; have e1 : a = b := h1; have e2 : a = c := h2; omega
    | cons q F ih => intro a b c h1 h2; exact ih h1.2.2 h2.2.2
  rw [key c1 hA.cov] at c2
  exact c2
end Go.Proofs.YtffcnonhhfhlhaaDoor.Rg
namespace Go.Proofs.YtffcnonhhfhlhaaDoor.Rg
open Go.RowKit Go.Shelf Go.Sort
open Go.Proofs.YtffcnonhhfhlhaaDoor.It
attribute [local go_sem] Oper.semAt_some
set_option linter.unusedVariables false

def cellsK (c : Cg) : List Value := [.int .u64 c.lo, .int .u64 c.hi, .int .u8 c.f, .int .u8 c.t]
def cellsC (C : List Cg) : List Value := C.flatMap cellsK
theorem cellsC_append (A B : List Cg) : cellsC (A ++ B) = cellsC A ++ cellsC B := by simp [cellsC]
theorem cellsC_length : ∀ L : List Cg, (cellsC L).length = L.length * 4
  | [] => rfl
  | s :: L => by
    have := cellsC_length L
    simp only [cellsC, List.flatMap_cons, List.length_append] at this ⊢
    simp [cellsK, this]; omega
theorem info55 : (Tryd.prog.info? 112).map (fun i => (i.zero, i.size, i.bytes)) = some (some (.agg #[.int .u64 0, .int .u64 0, .int .u8 0, .int .u8 0]), 4, 24) := by kernel_rfl
theorem own_type55 {w : World} {B n g : Nat} {u : Value} {xs : List Value} (h : w.ownsRow B 112 4 u n xs) (hg : u.ownBlock = some g) : B ≤ g ∧ ∃ c, w.heap[g]? = some (.cells c 112 (0, 0)) := by
  rcases h.2 with ⟨rfl, h0⟩ | ⟨g', cap, cur, rfl, hb', hg', _⟩
  · cases hg
  · simp [Value.ownBlock] at hg; subst hg; exact ⟨hb', cur, hg'⟩
theorem cell_four_new (w : World) (x y z v : Value) (t : TypeId) : ∀ j u, [x, y, z, v][j]? = some u → (w.alloc (.cells #[x, y, z, v] t)).cell? ((⟨w.heap.size, 0, none⟩ : Addr).add j) = some u := by
  intro j u hj
  have h := cell4' (heap_alloc_new w (.cells #[x, y, z, v] t))
  match j, hj with
  | 0, hj => simp at hj; subst hj; exact h.1
  | 1, hj => simp at hj; subst hj; exact h.2.1
  | 2, hj => simp at hj; subst hj; exact h.2.2.1
  | 3, hj => simp at hj; subst hj; exact h.2.2.2

/-- the loop of Diff: its place, what it has told, and the other table's box -/
structure Dm (w V : World) (BP BT B3 b2 : Nat) (p : Nat) (C : List Cg) : Prop where
  pl : V.heap[BP]? = some (.cells #[.int .i64 (p : Int)] 3 (0, 0))
  to : ∃ u, V.heap[BT]? = some (.cells #[u] 58 (0, 0)) ∧ V.ownsRow w.heap.size 112 4 u C.length (cellsC C)
  bx : V.heap[B3]? = some (.cells #[.pointer (some ⟨b2, 0, none⟩)] 27 (0, 0))
theorem Dm.own {w : World} {BP BT B3 b2 : Nat} {β : Type} (B : Nat) (f : β → Nat) (g : β → List Cg) : OwnFrom B (fun s V => Dm w V BP BT B3 b2 (f s) (g s)) := fun s X Z row hs hg hr => by
  obtain ⟨h1, ⟨u, h2, h3⟩, h4⟩ := hs
  refine ⟨own_cells (β := Unit) B _ _ _ _ () X Z row h1 hg hr, ⟨u, own_cells (β := Unit) B _ _ _ _ () X Z row h2 hg hr, own_keep h3 (fun k e => hg.block k (own_lt h3 e) (fun e2 => ?_))⟩, own_cells (β := Unit) B _ _ _ _ () X Z row h4 hg hr⟩
  obtain ⟨_, o, ho, hc⟩ := hr k e2.symm
  obtain ⟨_, c, e3⟩ := own_type55 h3 e
  rw [e3] at ho; cases ho; cases hc
theorem Dm.nu {w V V' : World} {BP BT B3 b2 p : Nat} {C : List Cg} (h : Dm w V BP BT B3 b2 p C) (k : Kp Nu V V') : Dm w V' BP BT B3 b2 p C := by
  obtain ⟨h1, ⟨u, h2, h3⟩, h4⟩ := h
  exact ⟨(k.block _ (blk_lt h1) (fun h => h)).trans h1, ⟨u, (k.block _ (blk_lt h2) (fun h => h)).trans h2, own_keep h3 (fun g e => k.block g (own_lt h3 e) (fun h => h))⟩, (k.block _ (blk_lt h4) (fun h => h)).trans h4⟩
/-- the place goes on -/
theorem Dm.next {w V : World} {BP BT B3 b2 p : Nat} {C : List Cg} (h : Dm w V BP BT B3 b2 p C) : Dm w (V.setCell ⟨BP, 0, none⟩ (.int .i64 ((p + 1 : Nat) : Int))) BP BT B3 b2 (p + 1) C ∧ Kp (fun k => k = BP) V (V.setCell ⟨BP, 0, none⟩ (.int .i64 ((p + 1 : Nat) : Int))) := by
  obtain ⟨h1, ⟨u, h2, h3⟩, h4⟩ := h
  have ne : ∀ {g : Nat} {c : Array Value} {t : TypeId}, V.heap[g]? = some (.cells c t (0, 0)) → t ≠ 3 → g ≠ BP := fun hg ht e => by subst e; rw [h1] at hg; cases hg; exact ht rfl
  refine ⟨⟨by rw [set3 h1 0 _]; rfl, ⟨u, (Below.heap_setCell V ⟨BP, 0, none⟩ _ _ (ne h2 (by decide))).trans h2, own_keep h3 (fun g e => ?_)⟩, (Below.heap_setCell V ⟨BP, 0, none⟩ _ _ (ne h4 (by decide))).trans h4⟩, Kp.setCell V ⟨BP, 0, none⟩ _⟩
  obtain ⟨_, c, e3⟩ := own_type55 h3 e
  exact Below.heap_setCell V ⟨BP, 0, none⟩ _ g (ne e3 (by decide))
/-- one more is told -/
theorem Dm.tell {w V V1 : World} {BP BT B3 b2 p : Nat} {C C' : List Cg} {u u' : Value} (h1 : V.heap[BP]? = some (.cells #[.int .i64 (p : Int)] 3 (0, 0))) (h2 : V.heap[BT]? = some (.cells #[u] 58 (0, 0))) (h3 : V.ownsRow w.heap.size 112 4 u C.length (cellsC C)) (h4 : V.heap[B3]? = some (.cells #[.pointer (some ⟨b2, 0, none⟩)] 27 (0, 0)))
    (k : Kp (fun k => some k = u.ownBlock) V V1) (ho : V1.ownsRow w.heap.size 112 4 u' C'.length (cellsC C')) :
    V1.heap[BT]? = some (.cells #[u] 58 (0, 0)) ∧ Dm w (V1.setCell ⟨BT, 0, none⟩ u') BP BT B3 b2 p C' ∧ Kp (fun k => some k = u.ownBlock ∨ k = BT) V (V1.setCell ⟨BT, 0, none⟩ u') := by
  have nu : ∀ {g : Nat} {c : Array Value} {t : TypeId}, V.heap[g]? = some (.cells c t (0, 0)) → t ≠ 112 → V1.heap[g]? = some (.cells c t (0, 0)) := fun {g c t} e ht => (k.block g (blk_lt e) (fun hs => by
    obtain ⟨_, c', e'⟩ := own_type55 h3 hs.symm
    rw [e] at e'; cases e'; exact ht rfl)).trans e
  have b2' := nu h2 (by decide)
  have ne : ∀ {g : Nat} {c : Array Value} {t : TypeId}, V1.heap[g]? = some (.cells c t (0, 0)) → t ≠ 58 → g ≠ BT := fun hg ht e => by subst e; rw [b2'] at hg; cases hg; exact ht rfl
  have st : ∀ {g : Nat} {c : Array Value} {t : TypeId}, V1.heap[g]? = some (.cells c t (0, 0)) → t ≠ 58 → (V1.setCell ⟨BT, 0, none⟩ u').heap[g]? = some (.cells c t (0, 0)) := fun e ht => (Below.heap_setCell V1 ⟨BT, 0, none⟩ u' _ (ne e ht)).trans e
  refine ⟨b2', ⟨st (nu h1 (by decide)) (by decide), ⟨u', by rw [set3 b2' 0 u']; rfl, own_keep ho (fun g e => ?_)⟩, st (nu h4 (by decide)) (by decide)⟩, (k.mono (fun i _ h => .inl h)).andSet _ _ (.inr (.inr rfl))⟩
  obtain ⟨_, c, e3⟩ := own_type55 ho e
  exact Below.heap_setCell V1 ⟨BT, 0, none⟩ u' g (ne e3 (by decide))
/-- what a step of Diff turns: its own two boxes and what it tells -/
structure Df (w V V' : World) (r : Nat) (B0 : Nat) : Prop where
  kf : KeepsFrom B0 V V'
  kc : Kc (fun k _ => k = r) V V'
  be : Below w.heap.size w V'
theorem Df.refl {w V : World} {r B0 : Nat} (h : Below w.heap.size w V) : Df w V V r B0 := ⟨KeepsFrom.refl _ _, Kc.refl _ _, h⟩
theorem Df.step {w V V1 V2 : World} {r B0 : Nat} {S : Nat → Prop} (h : Df w V V1 r B0) (k : Kp S V1 V2) (hS : ∀ j, j < V1.heap.size → S j → w.heap.size ≤ j ∧ ∃ c t, V1.heap[j]? = some (.cells c t (0, 0))) (hr : r < w.heap.size) : Df w V V2 r B0 := by
  refine ⟨h.kf.trans ⟨k.size, fun j o _ hj ho => (k.block j (blk_lt hj) (fun hs => ?_)).trans hj⟩, h.kc.trans (fun j c t m hj e => (k.block j (blk_lt e) (fun hs => ?_)).trans e), h.be.trans ?_⟩
  · obtain ⟨_, c, t, e⟩ := hS j (blk_lt hj) hs
    rw [hj] at e; cases e; cases ho
  · have h1 := (hS j (blk_lt e) hs).1
    have h2 : j = r := hj
    omega
  · refine ⟨k.os, k.tape, k.output, k.size, fun j hj => k.block j (by have := h.be.size; omega) (fun hs => ?_)⟩
    have h1 := (hS j (by have := h.be.size; omega) hs).1
    omega
theorem Df.nu {w V V1 V2 : World} {r B0 : Nat} (h : Df w V V1 r B0) (k : Kp Nu V1 V2) (hr : r < w.heap.size) : Df w V V2 r B0 := h.step k (fun _ _ h => h.elim) hr
end Go.Proofs.YtffcnonhhfhlhaaDoor.Rg
namespace Go.Proofs.YtffcnonhhfhlhaaDoor.Rg
open Go.RowKit Go.Shelf Go.Sort
open Go.Proofs.YtffcnonhhfhlhaaDoor.It
attribute [local go_sem] Oper.semAt_some
set_option linter.unusedVariables false

theorem wp_scope {n : Nat} {P : Program} {c : Code} {Q : Exit → Act → World → Prop} {a : Act} {w : World} (h : c.wpIn Fence.wide n P (Exit.noGoto Q) a w) : (Code.scope c).wpIn Fence.wide n P Q a w :=
  wpIn_wide.2 (wp_scope_straight (wpIn_wide.1 h))
def plOf (wr : World) (BP : Nat) : Nat := ((wr.cell? ⟨BP, 0, none⟩).map (fun v => (intOf v).toNat)).getD 0

theorem dx_len (x : Sg) : ∀ F : List Sg, (dx x F).1.length ≤ (dx x F).2 + 1 ∧ (dx x F).2 ≤ F.length
  | [] => ⟨by simp [dx], by simp [dx]⟩
  | y :: r => by
    have ih := dx_len x r
    simp only [dx]
    split
    · simp only [List.length_cons]; omega
    · split
      · split <;> simp
      · split <;> simp <;> omega
theorem dst_len (E : List Sg) : ∀ n (A : List Sg), A.length = n → (dst E A).2.length ≤ A.length + (dst E A).1 ∧ (dst E A).1 ≤ E.length
  | 0, A, h => by
    have : A = [] := List.length_eq_zero_iff.1 h
    subst this; simp [dst]
  | n + 1, A, h => by
    obtain ⟨B, x, rfl⟩ : ∃ B x, A = B ++ [x] := ⟨A.dropLast, A.getLast (by intro e; simp [e] at h), (List.dropLast_concat_getLast _).symm⟩
    have ih := dst_len E n B (by simpa using h)
    have h1 := dx_len x (E.drop (dst E B).1)
    rw [dst_snoc]
    simp only [List.length_append, List.length_drop, List.length_singleton] at h1 ⊢
    omega
theorem plOf_at {V : World} {BP p : Nat} (h : V.heap[BP]? = some (.cells #[.int .i64 (p : Int)] 3 (0, 0))) : plOf V BP = p := by
  simp [plOf, cell1 h, intOf]
/-- a step's end: the place goes on -/
theorem rd_end {w V W : World} {BP BT B3 b2 Bx p r B0 : Nat} {C : List Cg} {X : Array Value} (h : Dm w W BP BT B3 b2 p C) (hX : W.heap[Bx]? = some (.cells X 26 (0, 0))) (hDf : Df w V W r B0) (hBP : w.heap.size ≤ BP) (hr : r < w.heap.size) :
    Dm w (W.setCell ⟨BP, 0, none⟩ (.int .i64 ((p : Int) + 1))) BP BT B3 b2 (p + 1) C ∧ (W.setCell ⟨BP, 0, none⟩ (.int .i64 ((p : Int) + 1))).heap[Bx]? = some (.cells X 26 (0, 0)) ∧ Df w V (W.setCell ⟨BP, 0, none⟩ (.int .i64 ((p : Int) + 1))) r B0 ∧ plOf (W.setCell ⟨BP, 0, none⟩ (.int .i64 ((p : Int) + 1))) BP = p + 1 := by
  obtain ⟨h1, h2⟩ := h.next
  have hne : Bx ≠ BP := fun e => by subst e; rw [h.pl] at hX; cases hX
  refine ⟨h1, (h2.block _ (blk_lt hX) hne).trans hX, hDf.step h2 (fun j _ hj => ?_) hr, plOf_at h1.pl⟩
  have hj : j = BP := hj
  subst hj
  exact ⟨hBP, _, _, h.pl⟩

set_option maxRecDepth 100000 in
set_option maxHeartbeats 4000000 in
theorem diff_any {B b1 b2 : Nat} {w : World} {l1 l2 : Int} {v1 v2 : Value} {A E : List Sg} (h1 : Tb B w b1 l1 v1 A) (h2 : Tb B w b2 l2 v2 E) :
    Calls Tryd.prog 28 #[.pointer (some ⟨b1, 0, none⟩), .pointer (some ⟨b2, 0, none⟩)] w fun e w' => ∃ u, e = .returned (.tuple #[u, .int .i64 0]) ∧ w'.ownsRow w.heap.size 112 4 u (dst E A).2.length (cellsC (dst E A).2) ∧ Kp Nu w w' := by
  have mixed : Tryd.prog.follows .mixedOrders = true := by kernel_rfl
  obtain ⟨i0, hi0, hz0, hz1, hz2⟩ := info_parts info55
  have KA := Kp.alloc w (.cells #[.pointer (some ⟨b2, 0, none⟩)] 27) Nu
  have M1 := made_any (h1.nu KA)
  have M2 := made_any (h2.nu KA)
  have K3 := (KA.andAlloc (.cells #[.slice none 0 0] 58)).andAlloc (.cells #[.int .i64 0] 3)
  have AL := all_any (h1.nu K3)
  refine (callsIn_wide (n := 4)).1 ?_
  refine callsIn_of_wp_marks Tryd.func28 rfl trivial ?_ rfl
  simp only [Tryd.ntmps28, List.size_toArray, List.length_cons, List.length_nil, Nat.reduceAdd, Nat.reduceSub, Array.replicate_succ, Array.replicate_zero, List.push_toArray, List.append_toArray, List.nil_append, List.cons_append]
  gi_wp2_with fail
  refine wp_scope ?_
  gi_wp2_with fail
  refine ⟨trivial, (callsIn_wide.2 M1).mono ?_⟩
  rintro e w1 ⟨rfl, hw1⟩
  obtain rfl := hw1.symm
  clear hw1
  gi_wp2_with fail
  refine ⟨trivial, (callsIn_wide.2 M2).mono ?_⟩
  rintro e w1 ⟨rfl, hw1⟩
  obtain rfl := hw1.symm
  clear hw1 M1 M2
  gi_wp2_with fail
  refine wpIn_label ?_
  gi_wp2_with fail
  refine ⟨trivial, (callsIn_wide.2 AL).mono ?_⟩
  rintro e w4 ⟨Bn, r, cap, rfl, hbn, hr, hk4⟩
  have D0 : Dm w ((((w.alloc (.cells #[.pointer (some ⟨b2, 0, none⟩)] 27)).alloc (.cells #[.slice none 0 0] 58))).alloc (.cells #[.int .i64 0] 3)) (w.heap.size + 1 + 1) (w.heap.size + 1) w.heap.size b2 0 [] := by
    have e0 : ((((w.alloc (.cells #[.pointer (some ⟨b2, 0, none⟩)] 27)).alloc (.cells #[.slice none 0 0] 58))).alloc (.cells #[.int .i64 0] 3)).heap[w.heap.size + 1 + 1]? = some (.cells #[.int .i64 0] 3 (0, 0)) := by
      have := heap_alloc_new ((w.alloc (.cells #[.pointer (some ⟨b2, 0, none⟩)] 27)).alloc (.cells #[.slice none 0 0] 58)) (.cells #[.int .i64 0] 3)
      rwa [World.size_alloc, World.size_alloc] at this
    have e1 : ((((w.alloc (.cells #[.pointer (some ⟨b2, 0, none⟩)] 27)).alloc (.cells #[.slice none 0 0] 58))).alloc (.cells #[.int .i64 0] 3)).heap[w.heap.size + 1]? = some (.cells #[.slice none 0 0] 58 (0, 0)) := by
      have := heap_alloc_new (w.alloc (.cells #[.pointer (some ⟨b2, 0, none⟩)] 27)) (.cells #[.slice none 0 0] 58)
      rw [World.size_alloc] at this
      exact (Below.heap_alloc _ _ _ (blk_lt this)).trans this
    have e2 : ((((w.alloc (.cells #[.pointer (some ⟨b2, 0, none⟩)] 27)).alloc (.cells #[.slice none 0 0] 58))).alloc (.cells #[.int .i64 0] 3)).heap[w.heap.size]? = some (.cells #[.pointer (some ⟨b2, 0, none⟩)] 27 (0, 0)) := by
      have h := heap_alloc_new w (.cells #[.pointer (some ⟨b2, 0, none⟩)] 27)
      have h' := (Below.heap_alloc _ (.cells #[.slice none 0 0] 58) _ (blk_lt h)).trans h
      exact (Below.heap_alloc _ _ _ (blk_lt h')).trans h'
    exact ⟨e0, ⟨_, e1, ⟨rfl, .inl ⟨rfl, rfl⟩⟩⟩, e2⟩
  have D4 := D0.nu hk4
  have kw4 : Kp Nu w w4 := K3.andNu hk4
  have T1 := h1.nu kw4
  obtain ⟨cur, hcur, hrow⟩ := T1.cur hr
  have hrw : r < w.heap.size := own_lt h1.own hr
  have hlA : A.length ≤ 8192 := by have := h1.len; have := h1.lim1; omega
  have hlE : (E.length : Int) ≤ 8192 := by have := h2.len; have := h2.lim1; omega
  have SQ : SeqO Tryd.prog 73 #[.pointer (some ⟨Bn, 0, none⟩)] (fun x : Sg => #[enc x]) (fun k _ => k = r) (fun ys => ys = A) (fun pre => pre <+: A) A.length w4 :=
    SeqO.of_stops fun n => from_stops n Bn r 0 cap A cur hlA hrow _ hbn hcur
  have hb4 : Below w.heap.size w w4 := kw4.toBelow
  have hs4 : w.heap.size ≤ w4.heap.size := hb4.size
  have hbs : w.heap.size ≤ w.heap.size ∧ w.heap.size ≤ w.heap.size + 1 ∧ w.heap.size ≤ w.heap.size + 1 + 1 := by omega
  have H2 := hide h2
  generalize hB3 : w.heap.size = B3 at D4 hbs ⊢
  generalize hBT : B3 + 1 = BT at D4 hbs ⊢
  generalize hBP : BT + 1 = BP at D4 hbs ⊢
  clear AL D0 hk4 KA K3 T1 hcur hrow hbn kw4 h1 h2 hr
  gi_wp2_with fail
  refine range_o (gf := 73) rfl (enters_of Tryd.func73 (by kernel_rfl) rfl) SQ (Below.refl _ _) (fun _ => rfl)
    (fun pre V => Dm w V BP BT B3 b2 (dst E pre).1 (dst E pre).2 ∧ Below w.heap.size w V) (fun _ _ _ => False)
    (OwnFrom.and (Dm.own _ _ _) (ownFrom_below (Nat.le_refl _) hs4)) (fun _ _ _ _ _ hs _ _ => hs) ⟨D4, hb4⟩
    (fun x a' V => ∃ Bx, w.heap.size ≤ Bx ∧ V.heap[Bx]? = some (.cells #[.int .u64 x.lo, .int .u64 x.hi, .int .u8 x.h] 26 (0, 0)) ∧ a' = { tmps := #[.pointer (some ⟨b1, 0, none⟩), .pointer (some ⟨b2, 0, none⟩), undef, .pointer (some ⟨B3, 0, none⟩), .slice none 0 0, .int .i64 0, .pointer (some ⟨BT, 0, none⟩), .pointer (some ⟨BP, 0, none⟩), .pointer (some ⟨Bx, 0, none⟩), undef, .pointer (some ⟨b1, 0, none⟩), .bool true, .bool false, .bool false, .pointer (some ⟨b2, 0, none⟩), .bool true, .bool false, .bool false, .pointer (some ⟨b1, 0, none⟩), .func (.func 73) #[] #[.pointer (some ⟨Bn, 0, none⟩)], enc x, undef, undef, undef, undef, undef, undef, undef, undef, undef, undef, undef, undef, undef, undef, undef, undef, undef, undef, undef, undef, undef, undef, undef, undef, undef, undef, undef, undef, undef, undef, undef, undef, undef, undef, undef, undef, undef, undef, undef, undef, undef, undef, undef, undef, undef, undef, undef, undef, undef, undef], defers := [] })
    (fun x a' _ X Z row hs hg hr => by
      obtain ⟨Bx, h0, h1, h2⟩ := hs
      exact ⟨Bx, h0, own_cells (β := Unit) w4.heap.size Bx _ _ _ () X Z row h1 hg hr, h2⟩)
    ?assign1 ?body1 ?done1 (fun _ _ _ _ _ _ h _ => h.elim)
  case assign1 =>
    rintro l' pre x V K ⟨hLp, hB1⟩ hK
    simp only [enc]
    have kV := Kp.alloc V (.cells #[.int .u64 x.lo, .int .u64 x.hi, .int .u8 x.h] 26) Nu
    have HZ := hide (And.intro (hLp.nu kV) kV)
    clear hLp kV
    gi_wp2
    obtain ⟨f1, kV⟩ := HZ.out
    exact hK _ _ (kf_nu _ kV) (kc_nu kV) ⟨f1, hB1.alloc hB1.size _⟩ ⟨V.heap.size, hB1.size, heap_alloc_new V _, rfl⟩
  case body1 =>
    rintro l' pre x a' V hl' hq ⟨hD, hB1⟩ ⟨Bx, hxw, hX, rfl⟩ hlt
    have hsn := dst_snoc E pre x
    obtain ⟨Pt, hPt⟩ : ∃ Pt, (dst E (pre ++ [x])).1 = Pt := ⟨_, rfl⟩
    obtain ⟨Ct, hCt⟩ : ∃ Ct, (dst E (pre ++ [x])).2 = Ct := ⟨_, rfl⟩
    have HPC := hide (And.intro hPt hCt)
    rw [hsn] at hPt hCt
    have I0 : Hid ((dst E pre).1 + (dx x (E.drop (dst E pre).1)).2 = Pt ∧ (dst E pre).2 ++ (dx x (E.drop (dst E pre).1)).1 = Ct) := ⟨hPt, hCt⟩
    have HDf : Hid (Df w V V r w4.heap.size) := Df.refl hB1
    have hln := dst_len E _ pre rfl
    generalize (dst E pre).1 = p0 at *
    generalize (dst E pre).2 = C0 at *
    have HD0 := hide (And.intro hD hX)
    unfold enc
    clear hsn hPt hCt hD hX hl' hq SQ D4
    gi_wp2_with fail
    gi_loopw [9] (fun _ wr => ∃ (p : Nat) (C : List Cg), p = p ∧ Hid ((C.length ≤ pre.length + p ∧ p ≤ E.length) ∧ Dm w wr BP BT B3 b2 p C ∧ wr.heap[Bx]? = some (.cells #[.int .u64 x.lo, .int .u64 x.hi, .int .u8 x.h] 26 (0, 0)) ∧ Df w V wr r w4.heap.size ∧ p + (dx x (E.drop p)).2 = Pt ∧ C ++ (dx x (E.drop p)).1 = Ct)) (fun _ wr => E.length - plOf wr BP)
    case atStart => exact ⟨p0, C0, rfl, ⟨hln, HD0.out.1, HD0.out.2, HDf.out, I0.out.1, I0.out.2⟩⟩
    case round =>
      obtain ⟨p, C, hpp, hI⟩ := hrel
      clear hpp
      gi_wp2_with fail
      obtain ⟨hln2, hD, hX, hDf, hp1, hp2⟩ := hI.out
      have T2 := H2.out.nu (Kp.of_below hDf.be)
      obtain ⟨r2, cap2, ev2, _⟩ := T2.row
      have c1 := T2.c1
      rw [ev2] at c1
      have cp := cell1 hD.pl
      have cb := cell1 hD.bx
      clear hp1 hp2 hln
      refine wpIn_mono (Q := fun e a' w' => e = .normal ∧ w' = wr.drew ∧ a' = { tmps := #[.pointer (some ⟨b1, 0, none⟩), .pointer (some ⟨b2, 0, none⟩), undef, .pointer (some ⟨B3, 0, none⟩), .slice none 0 0, .int .i64 0, .pointer (some ⟨BT, 0, none⟩), .pointer (some ⟨BP, 0, none⟩), .pointer (some ⟨Bx, 0, none⟩), u9, .pointer (some ⟨b1, 0, none⟩), .bool true, .bool false, .bool false, .pointer (some ⟨b2, 0, none⟩), .bool true, .bool false, .bool false, .pointer (some ⟨b1, 0, none⟩), .func (.func 73) #[] #[.pointer (some ⟨Bn, 0, none⟩)], .agg #[.int .u64 x.lo, .int .u64 x.hi, .int .u8 x.h], .int .i64 (p : Int), .pointer (some ⟨b2, 0, none⟩), .pointer (some ⟨b2, 0, none⟩), .pointer (some ⟨b2, 1, none⟩), .slice (some ⟨r2, 0, none⟩) E.length cap2, .int .i64 E.length, .bool (decide (p < E.length)), u28, u29, u30, u31, u32, u33, u34, u35, u36, u37, u38, u39, u40, u41, u42, u43, u44, u45, u46, u47, u48, u49, u50, u51, u52, u53, u54, u55, u56, u57, u58, u59, u60, u61, u62, u63, u64, u65, u66, u67, u68, u69, undef], defers := [] }) ?reg7 ?rest7
      case reg7 =>
        clear hX hDf hD T2 HDf HD0 I0 HPC hI
        gi_region_with_o fail
        all_goals exact ⟨rfl, rfl, rfl⟩
      rintro e a' w' ⟨rfl, rfl, rfl⟩
      by_cases hp : p < E.length
      · obtain ⟨y, hy⟩ : ∃ y, E[p]? = some y := ⟨_, List.getElem?_eq_getElem (by omega)⟩
        obtain ⟨r', cap', e', y0, y1, y2⟩ := row_at T2.own hy
        rw [ev2] at e'
        cases e'
        have hr2 : r2 < wr.heap.size := own_lt T2.own (by rw [ev2]; rfl)
        have hs1 := blk_lt hD.pl
        have hs2 := blk_lt hD.bx
        have hs3 := blk_lt T2.blk
        clear hX hDf hD T2
        gi_wp2_with fail
        refine wpIn_mono (Q := fun e a' w' => e = .normal ∧ w' = wr.drew.drew.alloc (.cells #[.int .u64 y.lo, .int .u64 y.hi, .int .u8 y.h] 26) ∧ ∃ z35, a' = { tmps := #[.pointer (some ⟨b1, 0, none⟩), .pointer (some ⟨b2, 0, none⟩), undef, .pointer (some ⟨B3, 0, none⟩), .slice none 0 0, .int .i64 0, .pointer (some ⟨BT, 0, none⟩), .pointer (some ⟨BP, 0, none⟩), .pointer (some ⟨Bx, 0, none⟩), .pointer (some ⟨wr.heap.size, 0, none⟩), .pointer (some ⟨b1, 0, none⟩), .bool true, .bool false, .bool false, .pointer (some ⟨b2, 0, none⟩), .bool true, .bool false, .bool false, .pointer (some ⟨b1, 0, none⟩), .func (.func 73) #[] #[.pointer (some ⟨Bn, 0, none⟩)], .agg #[.int .u64 x.lo, .int .u64 x.hi, .int .u8 x.h], .int .i64 (p : Int), .pointer (some ⟨b2, 0, none⟩), .pointer (some ⟨b2, 0, none⟩), .pointer (some ⟨b2, 1, none⟩), .slice (some ⟨r2, 0, none⟩) E.length cap2, .int .i64 E.length, .bool true, u28, u29, .pointer (some ⟨b2, 0, none⟩), .pointer (some ⟨b2, 0, none⟩), .pointer (some ⟨b2, 1, none⟩), .slice (some ⟨r2, 0, none⟩) E.length cap2, .int .i64 (p : Int), z35, .agg #[.int .u64 y.lo, .int .u64 y.hi, .int .u8 y.h], u37, u38, u39, u40, u41, u42, u43, u44, u45, u46, u47, u48, u49, u50, u51, u52, u53, u54, u55, u56, u57, u58, u59, u60, u61, u62, u63, u64, u65, u66, u67, u68, u69, undef], defers := [] }) ?reg9 ?rest9
        case reg9 =>
          have hpI : (p : Int) < (E.length : Int) := by omega
          have hp0 : (0 : Int) ≤ (p : Int) := by omega
          clear HDf HD0 I0 HPC hI
          gi_region_with_o fail
          all_goals exact ⟨rfl, rfl, _, rfl⟩
        rintro e a' w' ⟨rfl, rfl, z35, rfl⟩
        obtain ⟨-, hD, hX, hDf, hp1, hp2⟩ := hI.out
        have K9 : Kp Nu wr (wr.drew.drew.alloc (.cells #[.int .u64 y.lo, .int .u64 y.hi, .int .u8 y.h] 26)) := (Kp.drew (Kp.drew (Kp.refl Nu wr))).andAlloc _
        have hX9 := (K9.block _ (blk_lt hX) (fun h => h)).trans hX
        have hY9 : (wr.drew.drew.alloc (.cells #[.int .u64 y.lo, .int .u64 y.hi, .int .u8 y.h] 26)).heap[wr.heap.size]? = some (.cells #[.int .u64 y.lo, .int .u64 y.hi, .int .u8 y.h] 26 (0, 0)) := heap_alloc_new wr.drew.drew _
        have hD9 := hD.nu K9
        have hDf9 := hDf.nu K9 hrw
        have hYw : w.heap.size ≤ wr.heap.size := hDf.be.size
        generalize wr.drew.drew.alloc (.cells #[.int .u64 y.lo, .int .u64 y.hi, .int .u8 y.h] 26) = W at *
        generalize wr.heap.size = By at *
        have hdr : E.drop p = y :: E.drop (p + 1) := by
          obtain ⟨hlt2, hy2⟩ := List.getElem?_eq_some_iff.1 hy
          rw [List.drop_eq_getElem_cons hlt2, hy2]
        rw [hdr] at hp1 hp2
        simp only [dx] at hp1 hp2
        obtain ⟨x0, x1, x2⟩ := cell3 hX9
        obtain ⟨q0, q1, q2⟩ := cell3 hY9
        have hD9' := hD9
        obtain ⟨dpl, ⟨u, dto, dow⟩, dbx⟩ := hD9
        obtain ⟨adu, cpu, hu⟩ := own_slice dow
        have cpl := cell1 dpl
        have cto := cell1 dto
        have fpl := free3 dpl 0
        have fto := free3 dto 0
        have hpw : plOf wr BP = p := plOf_at hD.pl
        have hpA : pre.length + p ≤ 20000 := by omega
        by_cases e1 : y.hi < x.lo
        · rw [if_pos e1] at hp1 hp2
          have HH := hide (And.intro hD9' (And.intro hX9 (And.intro hDf9 (And.intro hp1 (And.intro hp2 (And.intro hpw hln2))))))
          clear hD9' dpl dto dow dbx hDf9 hp1 hp2 hD hX hDf hI hX9 hY9 K9 HDf HD0 I0 hr2 y0 y1 y2 hs1 hs2 hs3 cto fto hpw hln2 hu hdr hpA
          gi_wp2_with fail
          obtain ⟨g1, g2, g3, g4, g5, g6, g7⟩ := HH.out
          obtain ⟨k1, k2, k3, k4⟩ := rd_end g1 g2 g3 (by omega) hrw
          exact ⟨⟨p + 1, C, trivial, ⟨⟨by omega, by omega⟩, k1, k2, k3, by omega, g5⟩⟩, by omega⟩
        · rw [if_neg e1] at hp1 hp2
          by_cases e3 : x.h = y.h
          · rw [if_pos e3] at hp1 hp2
            by_cases e2 : x.hi ≤ y.hi
            · rw [if_pos e2] at hp1 hp2
              have HH := hide (And.intro hD9' (And.intro hX9 (And.intro hDf9 (And.intro hp1 (And.intro hp2 (And.intro hpw hln2))))))
              clear hD9' dpl dto dow dbx hDf9 hp1 hp2 hD hX hDf hI hX9 hY9 K9 HDf HD0 I0 hr2 y0 y1 y2 hs1 hs2 hs3 cto fto hpw hln2 hu hdr hpA
              have e1' : x.lo ≤ y.hi := by omega
              gi_wp2_with fail
              obtain ⟨g1, g2, g3, g4, g5, g6, g7⟩ := HH.out
              obtain ⟨g8, g9⟩ := HPC.out
              refine ⟨g3.kf, g3.kc, ?_, by first | exact g3.be | exact hB3 ▸ g3.be⟩
              have g4' : p + 0 = Pt := g4
              have g5' : C ++ [] = Ct := g5
              rw [g8, g9, ← g4', ← g5', Nat.add_zero, List.append_nil]
              exact g1
            · rw [if_neg e2] at hp1 hp2
              have HH := hide (And.intro hD9' (And.intro hX9 (And.intro hDf9 (And.intro hp1 (And.intro hp2 (And.intro hpw hln2))))))
              clear hD9' dpl dto dow dbx hDf9 hp1 hp2 hD hX hDf hI hX9 hY9 K9 HDf HD0 I0 hr2 y0 y1 y2 hs1 hs2 hs3 cto fto hpw hln2 hu hdr hpA
              gi_wp2_with fail
              obtain ⟨g1, g2, g3, g4, g5, g6, g7⟩ := HH.out
              obtain ⟨k1, k2, k3, k4⟩ := rd_end g1 g2 g3 (by omega) hrw
              exact ⟨⟨p + 1, C, trivial, ⟨⟨by omega, by omega⟩, k1, k2, k3, by omega, g5⟩⟩, by omega⟩
          · rw [if_neg e3] at hp1 hp2
            have e1' : x.lo ≤ y.hi := by omega
            have e3' : (x.h != y.h) = true := by simp [e3]
            have n1 : By ≠ BT := fun e => by rw [e, dto] at hY9; cases hY9
            have n2 : Bx ≠ BT := fun e => by rw [e, dto] at hX9; cases hX9
            have n3 : BP ≠ BT := fun e => by rw [e, dto] at dpl; cases dpl
            have HB3 := hide dbx
            have KA := Kp.alloc W (.cells #[.int .u64 (max x.lo y.lo), .int .u64 (min x.hi y.hi), .int .u8 x.h, .int .u8 y.h] 112) Nu
            have HRo := hide (dow.alloc (.cells #[.int .u64 (max x.lo y.lo), .int .u64 (min x.hi y.hi), .int .u8 x.h, .int .u8 y.h] 112))
            have hWs : w.heap.size ≤ W.heap.size := hDf9.be.size
            have HH := hide (And.intro dpl (And.intro dto (And.intro dow (And.intro dbx (And.intro hX9 (And.intro hY9 (And.intro hDf9 (And.intro hp1 (And.intro hp2 (And.intro hpw (And.intro hln2 KA)))))))))))
            generalize hCL : C.length = CL at *
            have HCL := hide hCL
            subst hu
            clear hD9' dpl dto dow dbx hDf9 hp1 hp2 hD hX hDf hI hX9 hY9 K9 HDf HD0 I0 hr2 y0 y1 y2 hs1 hs2 hs3 hpw hdr KA hCL
            gi_wp2_with (first
              | (gi_at_builtin; refine wpListIn_append_own _ rfl _ _ 58 rfl w.heap.size 112 i0 (.agg #[.int .u64 0, .int .u64 0, .int .u8 0, .int .u8 0]) 4 24 Tryd.underlying58 hi0 hz0 hz1 hz2 rfl (by decide) _ _ _ rfl HRo.out ⟨W.heap.size, 0, none⟩ 1 1 [.int .u64 (max x.lo y.lo), .int .u64 (min x.hi y.hi), .int .u8 x.h, .int .u8 y.h] rfl rfl (cell_four_new _ _ _ _ _ _) (by simp [Value.oneCell']) (by unfold maxLen; omega) (by omega) (by simp; omega) ?_; intro v' w3 hown' hg3 hnil3; obtain ⟨ad3, cp3, ev3⟩ := own_slice hown'; have HO := hide hown'; have hkk : Kp (fun k => some k = (Value.slice adu CL cpu).ownBlock) W w3 := (HH.out.2.2.2.2.2.2.2.2.2.2.2.mono (fun _ _ h => h.elim)).trans (Kp.of_grown hg3) (fun _ _ h => h); have nu3 : ∀ {g : Nat} {c : Array Value} {t : TypeId}, W.heap[g]? = some (.cells c t (0, 0)) → t ≠ 112 → w3.heap[g]? = some (.cells c t (0, 0)) := (fun {g c t} e ht => (hkk.block g (blk_lt e) (fun hs => by (obtain ⟨_, c', e'⟩ := own_type55 HH.out.2.2.1 hs.symm; rw [e] at e'; cases e'; exact ht rfl))).trans e); have t1 := nu3 HH.out.1 (by decide); have t2 := nu3 HH.out.2.1 (by decide); have t3 := nu3 HH.out.2.2.2.2.1 (by decide); have t4 := nu3 HH.out.2.2.2.2.2.1 (by decide); have d1 := cell1 t1; have d2 := cell1 t2; have d3 := cell3 t3; have d4 := cell3 t4; obtain ⟨d30, d31, d32⟩ := d3; obtain ⟨d40, d41, d42⟩ := d4; have f1 := free3 t1 0; have f2 := free3 t2 0; have HT := hide (And.intro hkk (And.intro t2 t3)); subst ev3; clear hown' hg3 hnil3 t1 t2 t3 t4 nu3 hkk)
              | fail)
            · rename_i e2
              obtain ⟨g1, ga, gb, gc, gx, gy, g3, g4, g5, g6, g7, _⟩ := HH.out
              obtain ⟨k, t2, t3⟩ := HT.out
              have ho2 : w3.ownsRow w.heap.size 112 4 (.slice ad3 (CL + 1) cp3) (C ++ [(⟨max x.lo y.lo, min x.hi y.hi, x.h, y.h⟩ : Cg)]).length (cellsC (C ++ [(⟨max x.lo y.lo, min x.hi y.hi, x.h, y.h⟩ : Cg)])) := by
                rw [cellsC_append, List.length_append, HCL.out]; exact HO.out
              have hcl := HCL.out
              subst hcl
              obtain ⟨_, j1, j2⟩ := Dm.tell g1 ga gb gc k ho2
              have df := g3.step j2 (fun j _ hj => by
                rcases hj with hj | hj
                · obtain ⟨z1, z2, z3⟩ := own_type55 gb hj.symm
                  exact ⟨z1, _, _, z3⟩
                · subst hj
                  exact ⟨by omega, _, _, ga⟩) hrw
              obtain ⟨g8, g9⟩ := HPC.out
              rw [if_pos e2] at g4 g5
              have g4' : p + 0 = Pt := g4
              have g5' : C ++ [(⟨max x.lo y.lo, min x.hi y.hi, x.h, y.h⟩ : Cg)] = Ct := g5
              refine ⟨df.kf, df.kc, ?_, by first | exact df.be | exact hB3 ▸ df.be⟩
              rw [g8, g9, ← g4', ← g5', Nat.add_zero]
              exact j1
            · rename_i e2
              obtain ⟨g1, ga, gb, gc, gx, gy, g3, g4, g5, g6, g7, _⟩ := HH.out
              obtain ⟨k, t2, t3⟩ := HT.out
              have ho2 : w3.ownsRow w.heap.size 112 4 (.slice ad3 (CL + 1) cp3) (C ++ [(⟨max x.lo y.lo, min x.hi y.hi, x.h, y.h⟩ : Cg)]).length (cellsC (C ++ [(⟨max x.lo y.lo, min x.hi y.hi, x.h, y.h⟩ : Cg)])) := by
                rw [cellsC_append, List.length_append, HCL.out]; exact HO.out
              have hcl := HCL.out
              subst hcl
              obtain ⟨_, j1, j2⟩ := Dm.tell g1 ga gb gc k ho2
              have df := g3.step j2 (fun j _ hj => by
                rcases hj with hj | hj
                · obtain ⟨z1, z2, z3⟩ := own_type55 gb hj.symm
                  exact ⟨z1, _, _, z3⟩
                · subst hj
                  exact ⟨by omega, _, _, ga⟩) hrw
              rw [if_neg (by omega)] at g4 g5
              have g4' : p + ((dx x (E.drop (p + 1))).2 + 1) = Pt := g4
              have g5' : C ++ ([(⟨max x.lo y.lo, min x.hi y.hi, x.h, y.h⟩ : Cg)] ++ (dx x (E.drop (p + 1))).1) = Ct := g5
              rw [← List.append_assoc] at g5'
              obtain ⟨k1, k2, k3, k4⟩ := rd_end j1 ((Below.heap_setCell w3 ⟨BT, 0, none⟩ _ _ n2).trans t3) df (by omega) hrw
              have hlC : (C ++ [(⟨max x.lo y.lo, min x.hi y.hi, x.h, y.h⟩ : Cg)]).length = C.length + 1 := by simp
              exact ⟨⟨p + 1, _, trivial, ⟨⟨by omega, by omega⟩, k1, k2, k3, by omega, g5'⟩⟩, by omega⟩
      · have hdr : E.drop p = [] := List.drop_eq_nil_of_le (by omega)
        obtain ⟨-, -, -, -, hp1, hp2⟩ := hI.out
        rw [hdr] at hp1 hp2
        simp only [dx, List.append_nil, Nat.add_zero] at hp1 hp2
        have HH := hide (And.intro hD (And.intro hDf (And.intro hp1 hp2)))
        clear hX hDf hD T2 hp1 hp2 hdr
        gi_wp2_with fail
        obtain ⟨g1, g2, g3, g4⟩ := HH.out
        obtain ⟨g5, g6⟩ := HPC.out
        have kd : Kp Nu wr wr.drew := Kp.drew (Kp.refl Nu wr)
        have g7 := g2.nu kd hrw
        refine ⟨g7.kf, g7.kc, ?_, by first | exact g7.be | exact hB3 ▸ g7.be⟩
        rw [g5, g6, ← g3, ← g4]
        exact g1.nu kd
  case done1 =>
    rintro D ys V hD rfl ⟨hDm, hB1⟩ hK
    obtain ⟨dpl, ⟨u, b1, b2⟩, dbx⟩ := hDm
    have c1 := cell1 b1
    obtain ⟨adu, cpu, hu⟩ := own_slice b2
    have HF : Hid ((V.putObj D (.deferred none)).ownsRow w.heap.size 112 4 u (dst E ys).2.length (cellsC (dst E ys).2) ∧ Kp Nu w (V.putObj D (.deferred none))) := by
      refine ⟨own_keep b2 (fun g e => World.putObj_heap_other (fun e2 => ?_)), Kp.of_below (hB1.trans (belowK_b (w := w) (Nat.le_refl _) V D _ _ (Nat.le_trans hs4 hD) hK rfl rfl))⟩
      obtain ⟨_, c, e3⟩ := own_type55 b2 e
      subst e2
      rw [hK] at e3; cases e3
    subst hu
    clear dpl dbx b1 b2 SQ D4
    gi_wp2
    refine ⟨by simp, .inl ⟨_, _, rfl, run_takeDeferred hK, ?_⟩⟩
    refine ⟨.tuple #[.slice adu (dst E ys).2.length cpu, .int .i64 0], ?_, _, rfl, HF.out⟩
    simp [results, Tryd.results28, go_sem]
end Go.Proofs.YtffcnonhhfhlhaaDoor.Rg
