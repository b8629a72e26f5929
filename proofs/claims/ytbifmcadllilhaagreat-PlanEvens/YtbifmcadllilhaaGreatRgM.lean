import Derived.Test.YtbifmcadllilhaaGreatRgI
namespace Go.Proofs.YtbifmcadllilhaaGreat.Rg
open Go.RowKit Go.Shelf Go.Sort
open Go.Proofs.YtbifmcadllilhaaGreat.It
attribute [local go_sem] Oper.semAt_some
set_option linter.unusedVariables false

theorem field40 (W : World) (a b c : Value) : (Instr.field 38 (.agg #[a, b, c]) 2).run Tryz.prog W = .ok c W := by kernel_rfl

set_option maxRecDepth 100000 in
set_option maxHeartbeats 1000000 in
theorem lookup_any {B b : Nat} {w : World} {lim : Int} {v : Value} {L : List Sg} (h : Tb B w b lim v L) (key : Int) (k0 : 0 ≤ key) (k1 : key < 18446744073709551616) :
    Calls Tryz.prog 56 #[.pointer (some ⟨b, 0, none⟩), .int .u64 key] w fun e w' => e = .returned (.int .u8 (ow L key)) ∧ Kp Nu w w' := by
  have SG := segment_any h key k0 k1
  obtain ⟨s, hs, _, _, he, _⟩ := plc_facts h.tab.cov k0 k1
  have SG2 : Calls Tryz.prog 73 #[.pointer (some ⟨b, 0, none⟩), .int .u64 key] w fun e w' => e = .returned (.agg #[.int .u64 s.lo, .int .u64 s.hi, .int .u8 s.h]) ∧ Kp Nu w w' := SG.mono (by
    rintro e w' ⟨t, rfl, ht, hk⟩
    rw [hs] at ht; cases ht
    exact ⟨rfl, hk⟩)
  rw [← he]
  have fd := field40
  clear SG h hs he
  go_enter Tryz.func56, Tryz.ntmps56
  go_wp2_with (go_at_call 73; refine SG2.mono ?_; rintro e w' ⟨rfl, hk⟩)
  go_ret
  exact ⟨rfl, hk⟩

/-- is all of a range a host's? -/
def ownsB (L : List Sg) (lo hi o : Int) : Bool := (tk lo hi (L.drop (plc L lo))).all (fun s => s.h == o)

end Go.Proofs.YtbifmcadllilhaaGreat.Rg
namespace Go.Proofs.YtbifmcadllilhaaGreat.Rg
open Go.RowKit Go.Shelf Go.Sort
open Go.Proofs.YtbifmcadllilhaaGreat.It
set_option linter.unusedVariables false

theorem wu_add {x : Int} (h0 : 0 ≤ x) (h : x < 18446744073709551615) : IntKind.u64.wrap (x + 1) = x + 1 := by rw [IntKind.wrap_u64]; omega
theorem wu_sub {x : Int} (h0 : 0 < x) (h : x < 18446744073709551616) : IntKind.u64.wrap (x - 1) = x - 1 := by rw [IntKind.wrap_u64]; omega

def aft1 (L : List Sg) (lo o : Int) : Bool := decide (0 < lo ∧ ow L (lo - 1) ≠ o)
def aft2 (L : List Sg) (hi o : Int) : Bool := decide (hi < 18446744073709551615 ∧ ow L (hi + 1) ≠ o)

end Go.Proofs.YtbifmcadllilhaaGreat.Rg
namespace Go.Proofs.YtbifmcadllilhaaGreat.Rg
open Go.RowKit Go.Shelf Go.Sort
open Go.Proofs.YtbifmcadllilhaaGreat.It
set_option linter.unusedVariables false

theorem lay_snoc : ∀ (A : List Sg) (t s : Sg), lay (A ++ [t]) s = if t.h = s.h then A ++ [⟨t.lo, s.hi, t.h⟩] else A ++ [t] ++ [s]
  | [], t, s => rfl
  | [u], t, s => by
    simp only [List.singleton_append, lay]
    split <;> rfl
  | u :: x :: A, t, s => by
    have := lay_snoc (x :: A) t s
    simp only [List.cons_append, lay] at this ⊢
    rw [this]
    split <;> rfl
theorem info40 : (Tryz.prog.info? 38).map (fun i => (i.zero, i.size, i.bytes)) = some (some (.agg #[.int .u64 0, .int .u64 0, .int .u8 0]), 3, 24) := by kernel_rfl
theorem cell_three_new (w : World) (x y z : Value) (t : TypeId) : ∀ j u, [x, y, z][j]? = some u → (w.alloc (.cells #[x, y, z] t)).cell? ((⟨w.heap.size, 0, none⟩ : Addr).add j) = some u := by
  intro j u hj
  have h := cell3 (heap_alloc_new w (.cells #[x, y, z] t))
  match j, hj with
  | 0, hj => simp at hj; subst hj; exact h.1
  | 1, hj => simp at hj; subst hj; exact h.2.1
  | 2, hj => simp at hj; subst hj; exact h.2.2

/-- the last segment's end is set -/
theorem own_end {w : World} {B : Nat} {v : Value} {A : List Sg} {t : Sg} (h : w.ownsRow B 38 3 v (A.length + 1) (cells (A ++ [t]))) (y : Int) :
    ∃ r cap, v = .slice (some ⟨r, 0, none⟩) (A.length + 1) cap ∧ (w.setCell ⟨r, A.length * 3 + 1, none⟩ (.int .u64 y)).ownsRow B 38 3 v (A.length + 1) (cells (A ++ [⟨t.lo, y, t.h⟩])) ∧ w.frozen? ⟨r, A.length * 3 + 1, none⟩ = false := by
  rcases h.2 with ⟨_, h0⟩ | ⟨r, cap, cur, e, hB, hg, h1, h2, h3, h4⟩
  · omega
  refine ⟨r, cap, e, ⟨by rw [cells_length]; simp, .inr ⟨r, cap, cur.setIfInBounds (A.length * 3 + 1) (.int .u64 y), e, hB, set3 hg _ _, h1, h2, by simpa using h3, ?_⟩⟩, free3 hg _⟩
  rw [Array.toList_setIfInBounds, List.take_set, h4, cells_append, cells_append]
  have e1 : (cells A).length = A.length * 3 := cells_length A
  rw [List.set_append_right _ _ (by omega), e1]
  congr 1
  simp [cells, cellsG]

set_option maxRecDepth 100000 in
set_option maxHeartbeats 1000000 in
theorem lay_nil (base : Nat) (w : World) (u : Value) (s : Sg) (hown : w.ownsRow base 38 3 u 0 []) (hb : base ≤ w.heap.size) :
    Calls Tryz.prog 70 #[u, enc s] w fun e w' => ∃ u', e = .returned u' ∧ w'.ownsRow base 38 3 u' 1 (cells [s]) ∧ Kp (fun k => some k = u.ownBlock) w w' := by
  have mixed : Tryz.prog.follows .mixedOrders = true := by kernel_rfl
  obtain ⟨i0, hi, hz0, hz1, hz2⟩ := info_parts info40
  obtain ⟨ad, cap, hu⟩ := own_slice hown
  obtain ⟨N, hN⟩ : ∃ N, 0 = N := ⟨_, rfl⟩
  have HR : Hid ((((w.alloc (.cells #[.int .u64 s.lo, .int .u64 s.hi, .int .u8 s.h] 38)).alloc (.cells #[.int .u64 s.lo, .int .u64 s.hi, .int .u8 s.h] 38)).drew).ownsRow base 38 3 u 0 []) := (hown.alloc _).alloc _
  have HU : Hid (∀ g, u.ownBlock = some g → g < w.heap.size) := fun g hg => own_lt hown hg
  clear hN
  have HT : Hid (∀ j z, [.int .u64 s.lo, .int .u64 s.hi, .int .u8 s.h][j]? = some z → ((w.alloc (.cells #[.int .u64 s.lo, .int .u64 s.hi, .int .u8 s.h] 38)).alloc (.cells #[.int .u64 s.lo, .int .u64 s.hi, .int .u8 s.h] 38)).drew.cell? ((⟨w.heap.size + 1, 0, none⟩ : Addr).add j) = some z) := by
    have := cell_three_new (w.alloc (.cells #[.int .u64 s.lo, .int .u64 s.hi, .int .u8 s.h] 38)) (.int .u64 s.lo) (.int .u64 s.hi) (.int .u8 s.h) 38
    rw [World.size_alloc] at this
    exact this
  have K2 : Kp (fun k => some k = u.ownBlock) w ((w.alloc (.cells #[.int .u64 s.lo, .int .u64 s.hi, .int .u8 s.h] 38)).alloc (.cells #[.int .u64 s.lo, .int .u64 s.hi, .int .u8 s.h] 38)).drew := ((Kp.alloc w _ _).andAlloc _).drew
  have HK := hide K2
  subst hu
  clear hown K2
  unfold enc
  go_enter Tryz.func70, Tryz.ntmps70
  go_wp2_with fail
  go_region
  go_wp2_with (first
    | (at_builtin; refine wpList_append_own _ rfl _ _ 22 rfl base 38 i0 (.agg #[.int .u64 0, .int .u64 0, .int .u8 0]) 3 24 Tryz.underlying22 hi hz0 hz1 hz2 rfl (by decide) _ _ _ rfl HR.out ⟨w.heap.size + 1, 0, none⟩ 1 1 [.int .u64 s.lo, .int .u64 s.hi, .int .u8 s.h] rfl rfl HT.out (by simp [Value.oneCell']) (by unfold maxLen; omega) (by omega) (by simp; omega) ?_; intro v' w3 hown' hg3 hnil3; obtain ⟨ad3, cp3, ev3⟩ := own_slice hown'; have HO := hide hown'; have HG3 := hide hg3; subst ev3; clear hown' hg3 hnil3)
    | go_in)
  go_ret
  refine ⟨_, rfl, ?_, HK.out.trans (Kp.of_grown HG3.out) (fun i hi e => e)⟩
  have h1 := HO.out
  simpa [cells, cellsG] using h1

set_option maxRecDepth 100000 in
set_option maxHeartbeats 1000000 in
theorem lay_new (base : Nat) (w : World) (u : Value) (s : Sg) (A : List Sg) (t : Sg) (hne : t.h ≠ s.h) (hA : A.length + 2 ≤ 20000) (hown : w.ownsRow base 38 3 u (A.length + 1) (cells (A ++ [t]))) (hb : base ≤ w.heap.size) :
    Calls Tryz.prog 70 #[u, enc s] w fun e w' => ∃ u', e = .returned u' ∧ w'.ownsRow base 38 3 u' (A.length + 2) (cells (A ++ [t] ++ [s])) ∧ Kp (fun k => some k = u.ownBlock) w w' := by
  have mixed : Tryz.prog.follows .mixedOrders = true := by kernel_rfl
  obtain ⟨i0, hi, hz0, hz1, hz2⟩ := info_parts info40
  have ht : (A ++ [t])[A.length]? = some t := by simp
  have hl : (A ++ [t]).length = A.length + 1 := by simp
  have hown2 : w.ownsRow base 38 3 u (A ++ [t]).length (cells (A ++ [t])) := by rw [hl]; exact hown
  obtain ⟨r, cap, hu, x0, x1, x2⟩ := row_at hown2 ht
  rw [hl] at hu
  have HR : Hid ((((w.alloc (.cells #[.int .u64 s.lo, .int .u64 s.hi, .int .u8 s.h] 38)).alloc (.cells #[.int .u64 s.lo, .int .u64 s.hi, .int .u8 s.h] 38)).drew).ownsRow base 38 3 u (A.length + 1) (cells (A ++ [t]))) := (hown.alloc _).alloc _
  have HU : Hid (∀ g, u.ownBlock = some g → g < w.heap.size) := fun g hg => own_lt hown hg
  have hrlt : r < w.heap.size := HU.out r (by rw [hu]; rfl)
  have y2 : (w.alloc (.cells #[.int .u64 s.lo, .int .u64 s.hi, .int .u8 s.h] 38)).drew.cell? ⟨r, A.length * 3 + 2, none⟩ = some (.int .u8 t.h) := (World.cell?_of_block (Below.heap_alloc w _ r hrlt)).trans x2
  have heq : (t.h == s.h) = false := by simpa using hne
  generalize A.length = N at *
  have HT : Hid (∀ j z, [.int .u64 s.lo, .int .u64 s.hi, .int .u8 s.h][j]? = some z → ((w.alloc (.cells #[.int .u64 s.lo, .int .u64 s.hi, .int .u8 s.h] 38)).alloc (.cells #[.int .u64 s.lo, .int .u64 s.hi, .int .u8 s.h] 38)).drew.cell? ((⟨w.heap.size + 1, 0, none⟩ : Addr).add j) = some z) := by
    have := cell_three_new (w.alloc (.cells #[.int .u64 s.lo, .int .u64 s.hi, .int .u8 s.h] 38)) (.int .u64 s.lo) (.int .u64 s.hi) (.int .u8 s.h) 38
    rw [World.size_alloc] at this
    exact this
  have K2 : Kp (fun k => some k = u.ownBlock) w ((w.alloc (.cells #[.int .u64 s.lo, .int .u64 s.hi, .int .u8 s.h] 38)).alloc (.cells #[.int .u64 s.lo, .int .u64 s.hi, .int .u8 s.h] 38)).drew := ((Kp.alloc w _ _).andAlloc _).drew
  have HK := hide K2
  subst hu
  clear hown K2
  clear hown2 x0 x1 x2 ht hl hne
  unfold enc
  go_enter Tryz.func70, Tryz.ntmps70
  go_wp2_with fail
  go_region
  go_wp2_with (first
    | (at_builtin; refine wpList_append_own _ rfl _ _ 22 rfl base 38 i0 (.agg #[.int .u64 0, .int .u64 0, .int .u8 0]) 3 24 Tryz.underlying22 hi hz0 hz1 hz2 rfl (by decide) _ _ _ rfl HR.out ⟨w.heap.size + 1, 0, none⟩ 1 1 [.int .u64 s.lo, .int .u64 s.hi, .int .u8 s.h] rfl rfl HT.out (by simp [Value.oneCell']) (by unfold maxLen; omega) (by omega) (by simp; omega) ?_; intro v' w3 hown' hg3 hnil3; obtain ⟨ad3, cp3, ev3⟩ := own_slice hown'; have HO := hide hown'; have HG3 := hide hg3; subst ev3; clear hown' hg3 hnil3)
    | go_in)
  go_ret
  refine ⟨_, rfl, ?_, HK.out.trans (Kp.of_grown HG3.out) (fun i hi e => e)⟩
  have h1 := HO.out
  rw [cells_append]
  exact h1

set_option maxRecDepth 100000 in
set_option maxHeartbeats 1000000 in
theorem lay_same (base : Nat) (w : World) (u : Value) (s : Sg) (A : List Sg) (t : Sg) (hne : t.h = s.h) (hA : A.length + 2 ≤ 20000) (hown : w.ownsRow base 38 3 u (A.length + 1) (cells (A ++ [t]))) (hb : base ≤ w.heap.size) :
    Calls Tryz.prog 70 #[u, enc s] w fun e w' => ∃ u', e = .returned u' ∧ w'.ownsRow base 38 3 u' (A.length + 1) (cells (A ++ [⟨t.lo, s.hi, t.h⟩])) ∧ Kp (fun k => some k = u.ownBlock) w w' := by
  have mixed : Tryz.prog.follows .mixedOrders = true := by kernel_rfl
  have ht : (A ++ [t])[A.length]? = some t := by simp
  have hl : (A ++ [t]).length = A.length + 1 := by simp
  have hown2 : w.ownsRow base 38 3 u (A ++ [t]).length (cells (A ++ [t])) := by rw [hl]; exact hown
  obtain ⟨r, cap, hu, x0, x1, x2⟩ := row_at hown2 ht
  rw [hl] at hu
  obtain ⟨r', cap', hu', o1, o2⟩ := own_end hown s.hi
  rw [hu] at hu'
  simp only [Value.slice.injEq, Option.some.injEq, Addr.mk.injEq] at hu'
  obtain ⟨⟨rfl, _⟩, _⟩ := hu'
  have hrlt : r < w.heap.size := own_lt hown (by rw [hu]; rfl)
  have y2 : (w.alloc (.cells #[.int .u64 s.lo, .int .u64 s.hi, .int .u8 s.h] 38)).drew.cell? ⟨r, A.length * 3 + 2, none⟩ = some (.int .u8 t.h) := (World.cell?_of_block (Below.heap_alloc w _ r hrlt)).trans x2
  have y1 : (w.alloc (.cells #[.int .u64 s.lo, .int .u64 s.hi, .int .u8 s.h] 38)).drew.cell? ⟨r, A.length * 3 + 1, none⟩ = some (.int .u64 t.hi) := (World.cell?_of_block (Below.heap_alloc w _ r hrlt)).trans x1
  have heq : (t.h == s.h) = true := by simpa using hne
  have o3 : (w.alloc (.cells #[.int .u64 s.lo, .int .u64 s.hi, .int .u8 s.h] 38)).drew.frozen? ⟨r, A.length * 3 + 1, none⟩ = false := (World.frozen?_of_block (Below.heap_alloc w _ r hrlt)).trans o2
  have HO : Hid ((((w.setCell ⟨r, A.length * 3 + 1, none⟩ (.int .u64 s.hi)).alloc (.cells #[.int .u64 s.lo, .int .u64 s.hi, .int .u8 s.h] 38)).drew).ownsRow base 38 3 u (A.length + 1) (cells (A ++ [⟨t.lo, s.hi, t.h⟩]))) := o1.alloc _
  have hwn : w.heap.size ≠ r := by omega
  have K2 : Kp (fun k => some k = u.ownBlock) w ((w.setCell ⟨r, A.length * 3 + 1, none⟩ (.int .u64 s.hi)).alloc (.cells #[.int .u64 s.lo, .int .u64 s.hi, .int .u8 s.h] 38)).drew := (((Kp.refl _ w).andSet _ _ (.inr (by rw [hu]; rfl))).andAlloc _).drew
  have HK := hide K2
  generalize A.length = N at *
  subst hu
  clear hown hown2 x0 x1 x2 ht hl hne o1 K2
  unfold enc
  go_enter Tryz.func70, Tryz.ntmps70
  go_wp2_with fail
  go_region
  go_wp2
  go_ret
  exact ⟨_, rfl, HO.out, HK.out⟩

/-- what lay answers -/
theorem lay_any (base : Nat) (w : World) (u : Value) (A : List Sg) (s : Sg) (hA : A.length + 1 ≤ 20000) (hown : w.ownsRow base 38 3 u A.length (cells A)) (hb : base ≤ w.heap.size) :
    Calls Tryz.prog 70 #[u, enc s] w fun e w' => ∃ u', e = .returned u' ∧ w'.ownsRow base 38 3 u' (lay A s).length (cells (lay A s)) ∧ Kp (fun k => some k = u.ownBlock) w w' := by
  rcases List.eq_nil_or_concat A with rfl | ⟨A', t, rfl⟩
  · exact lay_nil base w u s hown hb
  · rw [List.concat_eq_append] at hA hown ⊢
    rw [lay_snoc]
    have hl : (A' ++ [t]).length = A'.length + 1 := by simp
    rw [hl] at hown hA
    by_cases e : t.h = s.h
    · rw [if_pos e]
      have hl2 : (A' ++ [(⟨t.lo, s.hi, t.h⟩ : Sg)]).length = A'.length + 1 := by simp
      rw [hl2]
      exact lay_same base w u s A' t e (by omega) hown hb
    · rw [if_neg e]
      have hl2 : (A' ++ [t] ++ [s]).length = A'.length + 2 := by simp
      rw [hl2]
      exact lay_new base w u s A' t e (by omega) hown hb
end Go.Proofs.YtbifmcadllilhaaGreat.Rg
namespace Go.Proofs.YtbifmcadllilhaaGreat.Rg
open Go.RowKit Go.Shelf Go.Sort
open Go.Proofs.YtbifmcadllilhaaGreat.It
attribute [local go_sem] Oper.semAt_some
set_option linter.unusedVariables false

/-- a piece of code that neither leaves nor panics -/
def Calm (Q : Exit → Act → World → Prop) : Exit → Act → World → Prop
  | .normal, a, w => Q .normal a w
  | _, _, _ => False
theorem wp_calm {F : Fence} {n : Nat} {P : Program} {c : Code} {Q : Exit → Act → World → Prop} {a : Act} {w : World} (h : c.wpIn F n P (Calm Q) a w) : c.wpIn F n P Q a w :=
  wpIn_mono h (fun e a w h => by cases e <;> first | exact h | exact h.elim)

/-- what a step that turns cells alone, none of them of K, keeps -/
theorem kf_cells {B : Nat} {S : Nat → Prop} {V V' : World} (h : Kp S V V') (hS : ∀ k, S k → ∃ c t m, V.heap[k]? = some (.cells c t m)) : KeepsFrom B V V' :=
  ⟨h.size, fun k o _ hk ho => (h.block k (blk_lt hk) (fun hs => by
    obtain ⟨c, t, m, e⟩ := hS k hs
    rw [hk] at e; cases e; cases ho)).trans hk⟩
theorem kc_cells {K : Nat → TypeId → Prop} {S : Nat → Prop} {V V' : World} (h : Kp S V V') (hS : ∀ k c t m, S k → V.heap[k]? = some (.cells c t m) → ¬ K k t) : Kc K V V' := fun k c t m hK e =>
  (h.block k (blk_lt e) (fun hs => hS k c t m hs e hK)).trans e
theorem own_type {w : World} {B n g : Nat} {u : Value} {xs : List Value} (h : w.ownsRow B 38 3 u n xs) (hg : u.ownBlock = some g) : B ≤ g ∧ ∃ c, w.heap[g]? = some (.cells c 38 (0, 0)) := by
  rcases h.2 with ⟨rfl, h0⟩ | ⟨g', cap, cur, rfl, hb', hg', _⟩
  · cases hg
  · simp [Value.ownBlock] at hg; subst hg; exact ⟨hb', cur, hg'⟩

/-- the loop over Within that lays: between two rounds -/
structure Lp (w V : World) (BX Bl Bh : Nat) (lo hi : Int) (C : List Sg) : Prop where
  box : ∃ u, V.heap[BX]? = some (.cells #[u] 22 (0, 0)) ∧ V.ownsRow w.heap.size 38 3 u C.length (cells C)
  bl : V.heap[Bl]? = some (.cells #[.int .u64 lo] 24 (0, 0))
  bh : V.heap[Bh]? = some (.cells #[.int .u64 hi] 24 (0, 0))
theorem Lp.own {w : World} {BX Bl Bh : Nat} {lo hi : Int} {β : Type} (B : Nat) (f : β → List Sg) : OwnFrom B (fun p V => Lp w V BX Bl Bh lo hi (f p)) := fun p X Z row hs hg hr => by
  obtain ⟨⟨u, h1, h2⟩, h3, h4⟩ := hs
  refine ⟨⟨u, own_cells (β := Unit) B _ _ _ _ () X Z row h1 hg hr, own_keep h2 (fun g e => hg.block g (own_lt h2 e) (fun e2 => ?_))⟩, own_cells (β := Unit) B _ _ _ _ () X Z row h3 hg hr, own_cells (β := Unit) B _ _ _ _ () X Z row h4 hg hr⟩
  obtain ⟨_, o, ho, hc⟩ := hr g e2.symm
  obtain ⟨_, c, e3⟩ := own_type h2 e
  rw [e3] at ho; cases ho; cases hc
theorem Lp.nu {w V V' : World} {BX Bl Bh : Nat} {lo hi : Int} {C : List Sg} (h : Lp w V BX Bl Bh lo hi C) (k : Kp Nu V V') : Lp w V' BX Bl Bh lo hi C := by
  obtain ⟨⟨u, h1, h2⟩, h3, h4⟩ := h
  exact ⟨⟨u, (k.block _ (blk_lt h1) (fun h => h)).trans h1, own_keep h2 (fun g e => k.block g (own_lt h2 e) (fun h => h))⟩, (k.block _ (blk_lt h3) (fun h => h)).trans h3, (k.block _ (blk_lt h4) (fun h => h)).trans h4⟩
/-- one round: what lay leaves, and the box set -/
theorem Lp.step {w V V1 : World} {BX Bl Bh r : Nat} {lo hi : Int} {C C' : List Sg} {u u' : Value} (h3 : V.heap[Bl]? = some (.cells #[.int .u64 lo] 24 (0, 0))) (h4 : V.heap[Bh]? = some (.cells #[.int .u64 hi] 24 (0, 0))) (h1 : V.heap[BX]? = some (.cells #[u] 22 (0, 0))) (h2 : V.ownsRow w.heap.size 38 3 u C.length (cells C)) (hr : r < w.heap.size) (hBX : w.heap.size ≤ BX)
    (k : Kp (fun k => some k = u.ownBlock) V V1) (ho : V1.ownsRow w.heap.size 38 3 u' C'.length (cells C')) (hB : Below w.heap.size w V) :
    Lp w (V1.setCell ⟨BX, 0, none⟩ u') BX Bl Bh lo hi C' ∧ KeepsFrom w.heap.size V (V1.setCell ⟨BX, 0, none⟩ u') ∧ Kc (KW Bl Bh r) V (V1.setCell ⟨BX, 0, none⟩ u') ∧ Below w.heap.size w (V1.setCell ⟨BX, 0, none⟩ u') := by
  have hty : ∀ g, some g = u.ownBlock → w.heap.size ≤ g ∧ ∃ c, V.heap[g]? = some (.cells c 38 (0, 0)) := fun g e => own_type h2 e.symm
  have nu : ∀ (g : Nat) (c : Array Value) (t : TypeId) (m : Nat × Nat), V.heap[g]? = some (Obj.cells c t m) → t ≠ 38 → V1.heap[g]? = some (Obj.cells c t m) := fun g c t m e ht => (k.block g (blk_lt e) (fun hs => by
    obtain ⟨_, c', e'⟩ := hty g hs
    rw [e] at e'; cases e'; exact ht rfl)).trans e
  have b1 := nu BX _ _ _ h1 (by decide)
  have hne : ∀ (g : Nat) (c : Array Value) (t : TypeId) (m : Nat × Nat), V1.heap[g]? = some (Obj.cells c t m) → t ≠ 22 → g ≠ BX := fun g c t m e ht e2 => by
    subst e2; rw [b1] at e; cases e; exact ht rfl
  have st : ∀ (g : Nat) (c : Array Value) (t : TypeId) (m : Nat × Nat), V1.heap[g]? = some (Obj.cells c t m) → t ≠ 22 → (V1.setCell ⟨BX, 0, none⟩ u').heap[g]? = some (Obj.cells c t m) := fun g c t m e ht => (Below.heap_setCell V1 ⟨BX, 0, none⟩ u' g (hne g c t m e ht)).trans e
  have kS : Kp (fun k => some k = u.ownBlock ∨ k = BX) V (V1.setCell ⟨BX, 0, none⟩ u') := (k.mono (fun i _ h => .inl h)).andSet _ _ (.inr (.inr rfl))
  have hS : ∀ j, (some j = u.ownBlock ∨ j = BX) → ∃ (c : Array Value) (t : TypeId), V.heap[j]? = some (Obj.cells c t (0, 0)) ∧ (t = 38 ∧ w.heap.size ≤ j ∨ t = 22 ∧ j = BX) := fun j hj => by
    rcases hj with hj | rfl
    · obtain ⟨h5, c, e⟩ := hty j hj
      exact ⟨c, 38, e, .inl ⟨rfl, h5⟩⟩
    · exact ⟨_, 22, h1, .inr ⟨rfl, rfl⟩⟩
  refine ⟨⟨⟨u', by rw [set3 b1 0 u']; rfl, own_keep ho (fun g e => ?_)⟩, st _ _ _ _ (nu _ _ _ _ h3 (by decide)) (by decide), st _ _ _ _ (nu _ _ _ _ h4 (by decide)) (by decide)⟩, kf_cells kS (fun j hj => ?_), kc_cells kS (fun j c t m hj e hK => ?_), ?_⟩
  · obtain ⟨_, c, e3⟩ := own_type ho e
    exact Below.heap_setCell V1 ⟨BX, 0, none⟩ u' g (hne g _ _ _ e3 (by decide))
  · obtain ⟨c, t, e, _⟩ := hS j hj
    exact ⟨c, t, _, e⟩
  · obtain ⟨c', t', e', h5⟩ := hS j hj
    rw [e] at e'; cases e'
    rcases hK with rfl | rfl | rfl | rfl
    · rw [h3] at e; cases e; rcases h5 with ⟨h, _⟩ | ⟨h, _⟩ <;> cases h
    · rw [h4] at e; cases e; rcases h5 with ⟨h, _⟩ | ⟨h, _⟩ <;> cases h
    · rcases h5 with ⟨_, h⟩ | ⟨_, h⟩ <;> omega
    · rcases h5 with ⟨h, _⟩ | ⟨h, _⟩ <;> cases h
  · refine hB.trans (kS.below w.heap.size hB.size (fun j hj => ?_))
    rcases hj with hj | rfl
    · exact (hty j hj).1
    · exact hBX

theorem low_len (L : List Sg) (lo : Int) : (lowP L lo).length ≤ L.length := by
  unfold lowP
  split
  · exact tk_len L _ _
  · simp

theorem mid_step {w V V1 : World} {BX : Nat} {n : Nat} {X : List Value} {C' : List Sg} {u u' : Value} (h1 : V.heap[BX]? = some (.cells #[u] 22 (0, 0))) (h2 : V.ownsRow w.heap.size 38 3 u n X) (hBX : w.heap.size ≤ BX)
    (k : Kp (fun k => some k = u.ownBlock) V V1) (ho : V1.ownsRow w.heap.size 38 3 u' C'.length (cells C')) (hB : Below w.heap.size w V) :
    V1.heap[BX]? = some (.cells #[u] 22 (0, 0)) ∧ (V1.setCell ⟨BX, 0, none⟩ u').heap[BX]? = some (.cells #[u'] 22 (0, 0)) ∧ (V1.setCell ⟨BX, 0, none⟩ u').ownsRow w.heap.size 38 3 u' C'.length (cells C') ∧ KeepsFrom w.heap.size V (V1.setCell ⟨BX, 0, none⟩ u') ∧ Below w.heap.size w (V1.setCell ⟨BX, 0, none⟩ u') := by
  have hty : ∀ g, some g = u.ownBlock → w.heap.size ≤ g ∧ ∃ c, V.heap[g]? = some (.cells c 38 (0, 0)) := fun g e => own_type h2 e.symm
  have b1 : V1.heap[BX]? = some (.cells #[u] 22 (0, 0)) := (k.block _ (blk_lt h1) (fun hs => by
    obtain ⟨_, c, e3⟩ := hty _ hs
    rw [h1] at e3; cases e3)).trans h1
  have kS : Kp (fun k => some k = u.ownBlock ∨ k = BX) V (V1.setCell ⟨BX, 0, none⟩ u') := (k.mono (fun i _ h => .inl h)).andSet _ _ (.inr (.inr rfl))
  refine ⟨b1, by rw [set3 b1 0 u']; rfl, own_keep ho (fun g e => ?_), kf_cells kS (fun j hj => ?_), hB.trans (kS.below w.heap.size hB.size (fun j hj => ?_))⟩
  · obtain ⟨_, c, e3⟩ := own_type ho e
    refine Below.heap_setCell V1 ⟨BX, 0, none⟩ u' g (fun e4 => ?_)
    have e5 : g = BX := e4
    subst e5
    rw [b1] at e3; cases e3
  · rcases hj with hj | rfl
    · obtain ⟨_, c, e⟩ := hty j hj
      exact ⟨c, _, _, e⟩
    · exact ⟨_, _, _, h1⟩
  · rcases hj with hj | rfl
    · exact (hty j hj).1
    · exact hBX

theorem fin_tb {B b : Nat} {w V : World} {lim : Int} {v u : Value} {L A : List Sg} (h : Tb B w b lim v L) (hB : Below w.heap.size w V) (ho : V.ownsRow w.heap.size 38 3 u A.length (cells A)) (hBw : B ≤ w.heap.size) (ht : Tab A) (hl : (A.length : Int) ≤ lim) :
    Tb B (V.setCell ⟨b, 1, none⟩ u) b lim u A ∧ Kp (fun k => k = b) w (V.setCell ⟨b, 1, none⟩ u) := by
  have hb := (hB.block b (blk_lt h.blk)).trans h.blk
  refine ⟨⟨by rw [set3 hb 1 u]; rfl, h.low, own_base (own_keep ho (fun g e => ?_)) hBw, ht, hl, h.lim1⟩, ((Kp.of_below hB).mono (fun i _ h => h.elim)).andSet _ _ (.inr rfl)⟩
  obtain ⟨_, c, e3⟩ := own_type ho e
  refine Below.heap_setCell V ⟨b, 1, none⟩ u g (fun e4 => ?_)
  have e5 : g = b := e4
  subst e5
  rw [hb] at e3; cases e3
theorem Tb.put {B b : Nat} {X : World} {lim : Int} {v : Value} {L : List Sg} (h : Tb B X b lim v L) {D : Nat} {o : Obj} (o' : Obj) (hD : X.heap[D]? = some o) (ho : o.isCells = false) : Tb B (X.putObj D o') b lim v L :=
  ⟨(World.putObj_heap_other (fun e => by have e2 : b = D := e; subst e2; rw [h.blk] at hD; cases hD; cases ho)).trans h.blk, h.low, own_keep h.own (fun g e => by
    obtain ⟨_, c, e3⟩ := own_type h.own e
    exact World.putObj_heap_other (fun e4 => by subst e4; rw [e3] at hD; cases hD; cases ho)), h.tab, h.len, h.lim1⟩
theorem Kp.put {S : Nat → Prop} {w X : World} (h : Kp S w X) {D : Nat} (o' : Obj) (hD : w.heap.size ≤ D) : Kp S w (X.putObj D o') :=
  ⟨h.os, h.tape, h.output, by have := h.size; simp; omega, fun k hk hs => (World.putObj_heap_other (by omega)).trans (h.block k hk hs)⟩
end Go.Proofs.YtbifmcadllilhaaGreat.Rg
