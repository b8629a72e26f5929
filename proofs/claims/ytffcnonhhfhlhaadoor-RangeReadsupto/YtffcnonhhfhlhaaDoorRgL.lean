import Derived.Test.YtffcnonhhfhlhaaDoorRgK
namespace Go.Proofs.YtffcnonhhfhlhaaDoor.Rg
open Go.RowKit Go.Shelf Go.Sort
open Go.Proofs.YtffcnonhhfhlhaaDoor.It
set_option linter.unusedVariables false

section
variable {B b : Nat} {w : World} {lim : Int} {v : Value} {L : List Sg}
set_option maxRecDepth 100000 in
set_option maxHeartbeats 1000000 in
theorem cost_ok (h : Tb B w b lim v L) (lo hi o : Int) (k0 : 0 ≤ lo) (hlh : lo ≤ hi) (k1 : hi < 18446744073709551616) (ho : o < 16) :
    Calls Tryd.prog 18 #[.pointer (some ⟨b, 0, none⟩), .int .u64 lo, .int .u64 hi, .int .u8 o] w fun e w' => e = .returned (.tuple #[.int .i64 (costB L lo hi o), .int .i64 0]) ∧ Kp Nu w w' := by
  have MA := made_any h
  have IH := isHost_any o w
  rw [decide_eq_true ho] at IH
  have AF := aft_any h lo hi o k0 hlh k1
  have NO := fun W (k : Kp Nu w W) => now_any (h.nu k) lo hi k0 hlh k1
  have c1 := cost_range h.tab o k0 hlh k1
  have c2 := h.len
  have c3 := h.lim1
  have HC : Hid (costB L lo hi o = aftB L lo hi o - nowB L lo hi) := rfl
  rw [HC.out] at c1 ⊢
  have hd : IntKind.i64.wrap (aftB L lo hi o - nowB L lo hi) = aftB L lo hi o - nowB L lo hi := by rw [IntKind.wrap_i64]; omega
  generalize aftB L lo hi o = x at *
  generalize nowB L lo hi = y at *
  have hgt : ¬ lo > hi := by omega
  clear h HC c1 c2 c3
  go_enter Tryd.func18, Tryd.ntmps18
  go_wp2_with fail
  refine MA.mono ?_; rintro e w1 ⟨rfl, hw1⟩
  obtain rfl := hw1.symm
  go_wp2_with fail
  refine IH.mono ?_; rintro e w1 ⟨rfl, hw1⟩
  obtain rfl := hw1.symm
  go_wp2_with fail
  refine AF.mono ?_; rintro e w2 ⟨rfl, hk2⟩
  clear AF MA IH
  go_wp2_with fail
  refine (NO _ hk2).mono ?_; rintro e w3 ⟨rfl, hk3⟩
  clear NO
  go_wp2
  go_ret2
  exact ⟨by simp, hk2.andNu hk3⟩
set_option maxRecDepth 100000 in
set_option maxHeartbeats 1000000 in
theorem cost_bad (h : Tb B w b lim v L) (lo hi o : Int) (hlh : hi < lo) :
    Calls Tryd.prog 18 #[.pointer (some ⟨b, 0, none⟩), .int .u64 lo, .int .u64 hi, .int .u8 o] w fun e w' => e = .returned (.tuple #[.int .i64 0, .int .i64 60]) ∧ w' = w := by
  have MA := made_any h
  have hgt : lo > hi := by omega
  clear h
  go_enter Tryd.func18, Tryd.ntmps18
  go_wp2_with fail
  refine MA.mono ?_; rintro e w1 ⟨rfl, hw1⟩
  obtain rfl := hw1.symm
  go_wp2
  go_ret2
  exact ⟨by simp, rfl⟩
set_option maxRecDepth 100000 in
set_option maxHeartbeats 1000000 in
theorem cost_arg (h : Tb B w b lim v L) (lo hi o : Int) (hlh : lo ≤ hi) (ho : ¬ o < 16) :
    Calls Tryd.prog 18 #[.pointer (some ⟨b, 0, none⟩), .int .u64 lo, .int .u64 hi, .int .u8 o] w fun e w' => e = .returned (.tuple #[.int .i64 0, .int .i64 2]) ∧ w' = w := by
  have MA := made_any h
  have IH := isHost_any o w
  rw [decide_eq_false ho] at IH
  have hgt : ¬ lo > hi := by omega
  clear h
  go_enter Tryd.func18, Tryd.ntmps18
  go_wp2_with fail
  refine MA.mono ?_; rintro e w1 ⟨rfl, hw1⟩
  obtain rfl := hw1.symm
  go_wp2_with fail
  refine IH.mono ?_; rintro e w1 ⟨rfl, hw1⟩
  obtain rfl := hw1.symm
  go_wp2
  go_ret2
  exact ⟨by simp, rfl⟩
end

theorem lay_snoc : ∀ (A : List Sg) (t s : Sg), lay (A ++ [t]) s = if t.h = s.h then A ++ [⟨t.lo, s.hi, t.h⟩] else A ++ [t] ++ [s]
  | [], t, s => rfl
  | [u], t, s => by
    simp only [List.singleton_append, lay]
    split <;> rfl
  | u :: x :: A, t, s => by
    have := lay_snoc (x :: A) t s
    simp only [List.cons_append, lay] at this ⊢
    rw [this]
    split <;> rfl
theorem info40 : (Tryd.prog.info? 26).map (fun i => (i.zero, i.size, i.bytes)) = some (some (.agg #[.int .u64 0, .int .u64 0, .int .u8 0]), 3, 24) := by kernel_rfl
theorem cell_three_new (w : World) (x y z : Value) (t : TypeId) : ∀ j u, [x, y, z][j]? = some u → (w.alloc (.cells #[x, y, z] t)).cell? ((⟨w.heap.size, 0, none⟩ : Addr).add j) = some u := by
  intro j u hj
  have h := cell3 (heap_alloc_new w (.cells #[x, y, z] t))
  match j, hj with
  | 0, hj => simp at hj; subst hj; exact h.1
  | 1, hj => simp at hj; subst hj; exact h.2.1
  | 2, hj => simp at hj; subst hj; exact h.2.2

/-- the last segment's end is set -/
theorem own_end {w : World} {B : Nat} {v : Value} {A : List Sg} {t : Sg} (h : w.ownsRow B 26 3 v (A.length + 1) (cells (A ++ [t]))) (y : Int) :
    ∃ r cap, v = .slice (some ⟨r, 0, none⟩) (A.length + 1) cap ∧ (w.setCell ⟨r, A.length * 3 + 1, none⟩ (.int .u64 y)).ownsRow B 26 3 v (A.length + 1) (cells (A ++ [⟨t.lo, y, t.h⟩])) ∧ w.frozen? ⟨r, A.length * 3 + 1, none⟩ = false := by
  rcases h.2 with ⟨_, h0⟩ | ⟨r, cap, cur, e, hB, hg, h1, h2, h3, h4⟩
  · omega
  refine ⟨r, cap, e, ⟨by rw [cells_length]; simp, .inr ⟨r, cap, cur.setIfInBounds (A.length * 3 + 1) (.int .u64 y), e, hB, set3 hg _ _, h1, h2, by simpa using h3, ?_⟩⟩, free3 hg _⟩
  rw [Array.toList_setIfInBounds, List.take_set, h4, cells_append, cells_append]
  have e1 : (cells A).length = A.length * 3 := cells_length A
  rw [List.set_append_right _ _ (by omega), e1]
  congr 1
  simp [cells, cellsG]

set_option maxRecDepth 100000 in
set_option maxHeartbeats 1000000 in
theorem lay_nil (base : Nat) (w : World) (u : Value) (s : Sg) (hown : w.ownsRow base 26 3 u 0 []) (hb : base ≤ w.heap.size) :
    Calls Tryd.prog 47 #[u, enc s] w fun e w' => ∃ u', e = .returned u' ∧ w'.ownsRow base 26 3 u' 1 (cells [s]) ∧ Kp (fun k => some k = u.ownBlock) w w' := by
  have mixed : Tryd.prog.follows .mixedOrders = true := by kernel_rfl
  obtain ⟨i0, hi, hz0, hz1, hz2⟩ := info_parts info40
  obtain ⟨ad, cap, hu⟩ := own_slice hown
  obtain ⟨N, hN⟩ : ∃ N, 0 = N := ⟨_, rfl⟩
  have HR : Hid ((((w.alloc (.cells #[.int .u64 s.lo, .int .u64 s.hi, .int .u8 s.h] 26)).alloc (.cells #[.int .u64 s.lo, .int .u64 s.hi, .int .u8 s.h] 26)).drew).ownsRow base 26 3 u 0 []) := (hown.alloc _).alloc _
  have HU : Hid (∀ g, u.ownBlock = some g → g < w.heap.size) := fun g hg => own_lt hown hg
  clear hN
  have HT : Hid (∀ j z, [.int .u64 s.lo, .int .u64 s.hi, .int .u8 s.h][j]? = some z → ((w.alloc (.cells #[.int .u64 s.lo, .int .u64 s.hi, .int .u8 s.h] 26)).alloc (.cells #[.int .u64 s.lo, .int .u64 s.hi, .int .u8 s.h] 26)).drew.cell? ((⟨w.heap.size + 1, 0, none⟩ : Addr).add j) = some z) := by
    have := cell_three_new (w.alloc (.cells #[.int .u64 s.lo, .int .u64 s.hi, .int .u8 s.h] 26)) (.int .u64 s.lo) (.int .u64 s.hi) (.int .u8 s.h) 26
    rw [World.size_alloc] at this
    exact this
  have K2 : Kp (fun k => some k = u.ownBlock) w ((w.alloc (.cells #[.int .u64 s.lo, .int .u64 s.hi, .int .u8 s.h] 26)).alloc (.cells #[.int .u64 s.lo, .int .u64 s.hi, .int .u8 s.h] 26)).drew := ((Kp.alloc w _ _).andAlloc _).drew
  have HK := hide K2
  subst hu
  clear hown K2
  unfold enc
  go_enter Tryd.func47, Tryd.ntmps47
  go_wp2_with fail
  go_region
  go_wp2_with (first
    | (at_builtin; refine wpList_append_own _ rfl _ _ 22 rfl base 26 i0 (.agg #[.int .u64 0, .int .u64 0, .int .u8 0]) 3 24 Tryd.underlying22 hi hz0 hz1 hz2 rfl (by decide) _ _ _ rfl HR.out ⟨w.heap.size + 1, 0, none⟩ 1 1 [.int .u64 s.lo, .int .u64 s.hi, .int .u8 s.h] rfl rfl HT.out (by simp [Value.oneCell']) (by unfold maxLen; omega) (by omega) (by simp; omega) ?_; intro v' w3 hown' hg3 hnil3; obtain ⟨ad3, cp3, ev3⟩ := own_slice hown'; have HO := hide hown'; have HG3 := hide hg3; subst ev3; clear hown' hg3 hnil3)
    | go_in)
  go_ret
  refine ⟨_, rfl, ?_, HK.out.trans (Kp.of_grown HG3.out) (fun i hi e => e)⟩
  have h1 := HO.out
  simpa [cells, cellsG] using h1

set_option maxRecDepth 100000 in
set_option maxHeartbeats 1000000 in
theorem lay_new (base : Nat) (w : World) (u : Value) (s : Sg) (A : List Sg) (t : Sg) (hne : t.h ≠ s.h) (hA : A.length + 2 ≤ 20000) (hown : w.ownsRow base 26 3 u (A.length + 1) (cells (A ++ [t]))) (hb : base ≤ w.heap.size) :
    Calls Tryd.prog 47 #[u, enc s] w fun e w' => ∃ u', e = .returned u' ∧ w'.ownsRow base 26 3 u' (A.length + 2) (cells (A ++ [t] ++ [s])) ∧ Kp (fun k => some k = u.ownBlock) w w' := by
  have mixed : Tryd.prog.follows .mixedOrders = true := by kernel_rfl
  obtain ⟨i0, hi, hz0, hz1, hz2⟩ := info_parts info40
  have ht : (A ++ [t])[A.length]? = some t := by simp
  have hl : (A ++ [t]).length = A.length + 1 := by simp
  have hown2 : w.ownsRow base 26 3 u (A ++ [t]).length (cells (A ++ [t])) := by rw [hl]; exact hown
  obtain ⟨r, cap, hu, x0, x1, x2⟩ := row_at hown2 ht
  rw [hl] at hu
  have HR : Hid ((((w.alloc (.cells #[.int .u64 s.lo, .int .u64 s.hi, .int .u8 s.h] 26)).alloc (.cells #[.int .u64 s.lo, .int .u64 s.hi, .int .u8 s.h] 26)).drew).ownsRow base 26 3 u (A.length + 1) (cells (A ++ [t]))) := (hown.alloc _).alloc _
  have HU : Hid (∀ g, u.ownBlock = some g → g < w.heap.size) := fun g hg => own_lt hown hg
  have hrlt : r < w.heap.size := HU.out r (by rw [hu]; rfl)
  have y2 : (w.alloc (.cells #[.int .u64 s.lo, .int .u64 s.hi, .int .u8 s.h] 26)).drew.cell? ⟨r, A.length * 3 + 2, none⟩ = some (.int .u8 t.h) := (World.cell?_of_block (Below.heap_alloc w _ r hrlt)).trans x2
  have heq : (t.h == s.h) = false := by simpa using hne
  generalize A.length = N at *
  have HT : Hid (∀ j z, [.int .u64 s.lo, .int .u64 s.hi, .int .u8 s.h][j]? = some z → ((w.alloc (.cells #[.int .u64 s.lo, .int .u64 s.hi, .int .u8 s.h] 26)).alloc (.cells #[.int .u64 s.lo, .int .u64 s.hi, .int .u8 s.h] 26)).drew.cell? ((⟨w.heap.size + 1, 0, none⟩ : Addr).add j) = some z) := by
    have := cell_three_new (w.alloc (.cells #[.int .u64 s.lo, .int .u64 s.hi, .int .u8 s.h] 26)) (.int .u64 s.lo) (.int .u64 s.hi) (.int .u8 s.h) 26
    rw [World.size_alloc] at this
    exact this
  have K2 : Kp (fun k => some k = u.ownBlock) w ((w.alloc (.cells #[.int .u64 s.lo, .int .u64 s.hi, .int .u8 s.h] 26)).alloc (.cells #[.int .u64 s.lo, .int .u64 s.hi, .int .u8 s.h] 26)).drew := ((Kp.alloc w _ _).andAlloc _).drew
  have HK := hide K2
  subst hu
  clear hown K2
  clear hown2 x0 x1 x2 ht hl hne
  unfold enc
  go_enter Tryd.func47, Tryd.ntmps47
  go_wp2_with fail
  go_region
  go_wp2_with (first
    | (at_builtin; refine wpList_append_own _ rfl _ _ 22 rfl base 26 i0 (.agg #[.int .u64 0, .int .u64 0, .int .u8 0]) 3 24 Tryd.underlying22 hi hz0 hz1 hz2 rfl (by decide) _ _ _ rfl HR.out ⟨w.heap.size + 1, 0, none⟩ 1 1 [.int .u64 s.lo, .int .u64 s.hi, .int .u8 s.h] rfl rfl HT.out (by simp [Value.oneCell']) (by unfold maxLen; omega) (by omega) (by simp; omega) ?_; intro v' w3 hown' hg3 hnil3; obtain ⟨ad3, cp3, ev3⟩ := own_slice hown'; have HO := hide hown'; have HG3 := hide hg3; subst ev3; clear hown' hg3 hnil3)
    | go_in)
  go_ret
  refine ⟨_, rfl, ?_, HK.out.trans (Kp.of_grown HG3.out) (fun i hi e => e)⟩
  have h1 := HO.out
  rw [cells_append]
  exact h1

set_option maxRecDepth 100000 in
set_option maxHeartbeats 1000000 in
theorem lay_same (base : Nat) (w : World) (u : Value) (s : Sg) (A : List Sg) (t : Sg) (hne : t.h = s.h) (hA : A.length + 2 ≤ 20000) (hown : w.ownsRow base 26 3 u (A.length + 1) (cells (A ++ [t]))) (hb : base ≤ w.heap.size) :
    Calls Tryd.prog 47 #[u, enc s] w fun e w' => ∃ u', e = .returned u' ∧ w'.ownsRow base 26 3 u' (A.length + 1) (cells (A ++ [⟨t.lo, s.hi, t.h⟩])) ∧ Kp (fun k => some k = u.ownBlock) w w' := by
  have mixed : Tryd.prog.follows .mixedOrders = true := by kernel_rfl
  have ht : (A ++ [t])[A.length]? = some t := by simp
  have hl : (A ++ [t]).length = A.length + 1 := by simp
  have hown2 : w.ownsRow base 26 3 u (A ++ [t]).length (cells (A ++ [t])) := by rw [hl]; exact hown
  obtain ⟨r, cap, hu, x0, x1, x2⟩ := row_at hown2 ht
  rw [hl] at hu
  obtain ⟨r', cap', hu', o1, o2⟩ := own_end hown s.hi
  rw [hu] at hu'
  simp only [Value.slice.injEq, Option.some.injEq, Addr.mk.injEq] at hu'
  obtain ⟨⟨rfl, _⟩, _⟩ := hu'
  have hrlt : r < w.heap.size := own_lt hown (by rw [hu]; rfl)
  have y2 : (w.alloc (.cells #[.int .u64 s.lo, .int .u64 s.hi, .int .u8 s.h] 26)).drew.cell? ⟨r, A.length * 3 + 2, none⟩ = some (.int .u8 t.h) := (World.cell?_of_block (Below.heap_alloc w _ r hrlt)).trans x2
  have y1 : (w.alloc (.cells #[.int .u64 s.lo, .int .u64 s.hi, .int .u8 s.h] 26)).drew.cell? ⟨r, A.length * 3 + 1, none⟩ = some (.int .u64 t.hi) := (World.cell?_of_block (Below.heap_alloc w _ r hrlt)).trans x1
  have heq : (t.h == s.h) = true := by simpa using hne
  have o3 : (w.alloc (.cells #[.int .u64 s.lo, .int .u64 s.hi, .int .u8 s.h] 26)).drew.frozen? ⟨r, A.length * 3 + 1, none⟩ = false := (World.frozen?_of_block (Below.heap_alloc w _ r hrlt)).trans o2
  have HO : Hid ((((w.setCell ⟨r, A.length * 3 + 1, none⟩ (.int .u64 s.hi)).alloc (.cells #[.int .u64 s.lo, .int .u64 s.hi, .int .u8 s.h] 26)).drew).ownsRow base 26 3 u (A.length + 1) (cells (A ++ [⟨t.lo, s.hi, t.h⟩]))) := o1.alloc _
  have hwn : w.heap.size ≠ r := by omega
  have K2 : Kp (fun k => some k = u.ownBlock) w ((w.setCell ⟨r, A.length * 3 + 1, none⟩ (.int .u64 s.hi)).alloc (.cells #[.int .u64 s.lo, .int .u64 s.hi, .int .u8 s.h] 26)).drew := (((Kp.refl _ w).andSet _ _ (.inr (by rw [hu]; rfl))).andAlloc _).drew
  have HK := hide K2
  generalize A.length = N at *
  subst hu
  clear hown hown2 x0 x1 x2 ht hl hne o1 K2
  unfold enc
  go_enter Tryd.func47, Tryd.ntmps47
  go_wp2_with fail
  go_region
  go_wp2
  go_ret
  exact ⟨_, rfl, HO.out, HK.out⟩

/-- what lay answers -/
theorem lay_any (base : Nat) (w : World) (u : Value) (A : List Sg) (s : Sg) (hA : A.length + 1 ≤ 20000) (hown : w.ownsRow base 26 3 u A.length (cells A)) (hb : base ≤ w.heap.size) :
    Calls Tryd.prog 47 #[u, enc s] w fun e w' => ∃ u', e = .returned u' ∧ w'.ownsRow base 26 3 u' (lay A s).length (cells (lay A s)) ∧ Kp (fun k => some k = u.ownBlock) w w' := by
  rcases List.eq_nil_or_concat A with rfl | ⟨A', t, rfl⟩
  · exact lay_nil base w u s hown hb
  · rw [List.concat_eq_append] at hA hown ⊢
    rw [lay_snoc]
    have hl : (A' ++ [t]).length = A'.length + 1 := by simp
    rw [hl] at hown hA
    by_cases e : t.h = s.h
    · rw [if_pos e]
      have hl2 : (A' ++ [(⟨t.lo, s.hi, t.h⟩ : Sg)]).length = A'.length + 1 := by simp
      rw [hl2]
      exact lay_same base w u s A' t e (by omega) hown hb
    · rw [if_neg e]
      have hl2 : (A' ++ [t] ++ [s]).length = A'.length + 2 := by simp
      rw [hl2]
      exact lay_new base w u s A' t e (by omega) hown hb
end Go.Proofs.YtffcnonhhfhlhaaDoor.Rg
