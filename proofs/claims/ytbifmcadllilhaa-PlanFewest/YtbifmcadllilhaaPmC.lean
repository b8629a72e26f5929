import Derived.Test.YtbifmcadllilhaaPnA
import Derived.Test.YtbifmcadllilhaaPdK
import Derived.Deep.RegionHeld3
namespace Go.Proofs.Ytbifmcadllilhaa.Rg
set_option linter.unusedVariables false
/-- a host that waits -/
structure Wt where
  h : Int
  p : Int
/-- comes ahead of -/
def wlt (x y : Wt) : Prop := x.p > y.p ∨ (x.p = y.p ∧ x.h < y.h)
instance (x y : Wt) : Decidable (wlt x y) := by unfold wlt; infer_instance
theorem wlt_asym {x y : Wt} (h : wlt x y) : ¬ wlt y x := by unfold wlt at *; omega
theorem wle_trans {x y z : Wt} (h1 : ¬ wlt x y) (h2 : ¬ wlt y z) : ¬ wlt x z := by unfold wlt at *; omega
theorem wlt_le {x y z : Wt} (h1 : ¬ wlt x y) (h2 : wlt z y) : ¬ wlt x z := wle_trans h1 (wlt_asym h2)
def we (l : List Wt) (k : Nat) : Wt := l.getD k ⟨0, 0⟩
def swp (l : List Wt) (i j : Nat) : List Wt := (l.set i (we l j)).set j (we l i)
theorem swp_len (l : List Wt) (i j : Nat) : (swp l i j).length = l.length := by simp [swp]
theorem we_get {l : List Wt} {k : Nat} (h : k < l.length) : l[k]? = some (we l k) := by
  unfold we
  rw [List.getD_eq_getElem?_getD, List.getElem?_eq_getElem h]
  rfl
theorem swp_at {l : List Wt} {i j : Nat} (hi : i < l.length) (hj : j < l.length) (k : Nat) : we (swp l i j) k = if k = j then we l i else if k = i then we l j else we l k := by
  unfold we swp
  rw [List.getD_eq_getElem?_getD, List.getElem?_set, List.getElem?_set]
  by_cases h1 : j = k
  · subst h1
    simp [hj, we]
  · by_cases h2 : i = k
    · subst h2
      simp [h1, hi, we, Ne.symm h1]
    · simp [h1, h2, Ne.symm h1, Ne.symm h2, List.getD_eq_getElem?_getD]
theorem swp_perm {l : List Wt} {i j : Nat} (hi : i < l.length) (hj : j < l.length) : (swp l i j).Perm l := by
  have e1 : we l j = l[j] := by unfold we; rw [List.getD_eq_getElem?_getD, List.getElem?_eq_getElem hj]; rfl
  have e2 : we l i = l[i] := by unfold we; rw [List.getD_eq_getElem?_getD, List.getElem?_eq_getElem hi]; rfl
  unfold swp
  rw [e1, e2]
  exact List.set_set_perm hi hj
/-- no child comes ahead of its parent -/
def Hok (l : List Wt) (n : Nat) : Prop := ∀ c, 1 ≤ c → c < n → ¬ wlt (we l c) (we l ((c - 1) / 2))
structure Hup (l : List Wt) (n j : Nat) : Prop where
  a : ∀ c, 1 ≤ c → c < n → c ≠ j → ¬ wlt (we l c) (we l ((c - 1) / 2))
  b : ∀ c, 1 ≤ c → c < n → (c - 1) / 2 = j → 1 ≤ j → ¬ wlt (we l c) (we l ((j - 1) / 2))
theorem Hup.zero {l : List Wt} {n : Nat} (h : Hup l n 0) : Hok l n := fun c h1 h2 => h.a c h1 h2 (by omega)
theorem Hup.stop {l : List Wt} {n j : Nat} (h : Hup l n j) (hs : ¬ wlt (we l j) (we l ((j - 1) / 2))) : Hok l n := fun c h1 h2 => by
  by_cases e : c = j
  · rw [e]; exact hs
  · exact h.a c h1 h2 e
theorem Hup.step {l : List Wt} {n j i : Nat} (h : Hup l n j) (hn : n ≤ l.length) (hj : j < n) (hj1 : 1 ≤ j) (hi : (j - 1) / 2 = i) (hs : wlt (we l j) (we l i)) : Hup (swp l i j) n i := by
  have il : i < l.length := by omega
  have jl : j < l.length := by omega
  have sa := swp_at il jl
  refine ⟨fun c h1 h2 hne => ?_, fun c h1 h2 he hi1 => ?_⟩
  · rw [sa, sa]
    by_cases q1 : c = j
    · subst q1
      rw [if_pos rfl, hi, if_neg (by omega), if_pos rfl]
      exact wlt_asym hs
    · rw [if_neg q1, if_neg hne]
      by_cases q2 : (c - 1) / 2 = j
      · rw [if_pos q2]
        have := h.b c h1 h2 q2 hj1
        rw [hi] at this
        exact this
      · rw [if_neg q2]
        have q0 := h.a c h1 h2 q1
        by_cases q3 : (c - 1) / 2 = i
        · rw [if_pos q3]
          rw [q3] at q0
          exact wlt_le q0 hs
        · rw [if_neg q3]
          exact q0
  · rw [sa, sa]
    have p1 : (i - 1) / 2 ≠ j := by omega
    have p2 : (i - 1) / 2 ≠ i := by omega
    rw [if_neg p1, if_neg p2]
    have hp := h.a i hi1 (by omega) (by omega)
    by_cases q1 : c = j
    · rw [if_pos q1]; exact hp
    · rw [if_neg q1, if_neg (by omega)]
      have q0 := h.a c h1 h2 q1
      rw [he] at q0
      exact wle_trans q0 hp
structure Hdn (l : List Wt) (n i : Nat) : Prop where
  a : ∀ c, 1 ≤ c → c < n → (c - 1) / 2 ≠ i → ¬ wlt (we l c) (we l ((c - 1) / 2))
  b : ∀ c, 1 ≤ c → c < n → (c - 1) / 2 = i → 1 ≤ i → ¬ wlt (we l c) (we l ((i - 1) / 2))
theorem Hdn.leaf {l : List Wt} {n i : Nat} (h : Hdn l n i) (hs : n ≤ 2 * i + 1) : Hok l n := fun c h1 h2 => h.a c h1 h2 (by omega)
/-- the child that comes first -/
def Best (l : List Wt) (n i j : Nat) : Prop := (j = 2 * i + 1 ∨ j = 2 * i + 2) ∧ j < n ∧ ∀ c, 1 ≤ c → c < n → (c - 1) / 2 = i → ¬ wlt (we l c) (we l j)
theorem Hdn.stop {l : List Wt} {n i j : Nat} (h : Hdn l n i) (hb : Best l n i j) (hs : ¬ wlt (we l j) (we l i)) : Hok l n := fun c h1 h2 => by
  by_cases e : (c - 1) / 2 = i
  · rw [e]; exact wle_trans (hb.2.2 c h1 h2 e) hs
  · exact h.a c h1 h2 e
theorem Hdn.step {l : List Wt} {n i j : Nat} (h : Hdn l n i) (hn : n ≤ l.length) (hb : Best l n i j) (hs : wlt (we l j) (we l i)) : Hdn (swp l i j) n j := by
  have hj := hb.2.1
  have hjj := hb.1
  have il : i < l.length := by omega
  have jl : j < l.length := by omega
  have sa := swp_at il jl
  have hpj : (j - 1) / 2 = i := by omega
  refine ⟨fun c h1 h2 hne => ?_, fun c h1 h2 he hj1 => ?_⟩
  · rw [sa, sa]
    by_cases q1 : c = j
    · subst q1
      rw [if_pos rfl, hpj, if_neg (by omega), if_pos rfl]
      exact wlt_asym hs
    · rw [if_neg q1, if_neg hne]
      by_cases q2 : (c - 1) / 2 = i
      · rw [if_pos q2, if_neg (by omega)]
        exact hb.2.2 c h1 h2 q2
      · rw [if_neg q2]
        by_cases q3 : c = i
        · rw [if_pos q3]
          subst q3
          exact h.b j (by omega) hj hpj h1
        · rw [if_neg q3]
          exact h.a c h1 h2 q2
  · rw [sa, sa, hpj, if_neg (by omega : i ≠ j), if_pos rfl, if_neg (by omega), if_neg (by omega)]
    have := h.a c h1 h2 (by omega)
    rw [he] at this
    exact this
/-- the first one comes ahead of all -/
theorem Hok.root {l : List Wt} {n : Nat} (h : Hok l n) : ∀ k, k < n → ¬ wlt (we l k) (we l 0) := by
  intro k
  induction k using Nat.strongRecOn with
  | _ k ih =>
    intro hk
    by_cases h0 : k = 0
    · subst h0; intro hh; exact wlt_asym hh hh
    · exact wle_trans (h k (by omega) hk) (ih ((k - 1) / 2) (by omega) (by omega))
end Go.Proofs.Ytbifmcadllilhaa.Rg
namespace Go.Proofs.Ytbifmcadllilhaa.Rg
open Go.RowKit Go.Shelf Go.Sort
set_option linter.unusedVariables false
def cellsQ (x : Wt) : List Value := [.int .u8 x.h, .int .i64 x.p]
def cellsW (l : List Wt) : List Value := l.flatMap cellsQ
theorem cellsW_snoc (l : List Wt) (x : Wt) : cellsW (l ++ [x]) = cellsW l ++ cellsQ x := by simp [cellsW]
theorem cellsW_len : ∀ l : List Wt, (cellsW l).length = l.length * 2
  | [] => rfl
  | x :: l => by
    have := cellsW_len l
    simp only [cellsW, List.flatMap_cons, List.length_append] at this ⊢
    simp [cellsQ, this]; omega
theorem cellsW_at : ∀ (l : List Wt) (k : Nat) (x : Wt), l[k]? = some x → ∀ j, j < 2 → (cellsW l)[k * 2 + j]? = (cellsQ x)[j]?
  | [], k, x, h, j, _ => by simp at h
  | a :: l, 0, x, h, j, hj => by
    simp at h; subst h
    simp only [cellsW, List.flatMap_cons, Nat.zero_mul, Nat.zero_add]
    rw [List.getElem?_append_left (by simp [cellsQ]; omega)]
  | a :: l, k + 1, x, h, j, hj => by
    have ih := cellsW_at l k x (by simpa using h) j hj
    simp only [cellsW, List.flatMap_cons]
    rw [List.getElem?_append_right (by simp [cellsQ]; omega)]
    have : (k + 1) * 2 + j - (cellsQ a).length = k * 2 + j := by simp [cellsQ]; omega
    rw [this]; exact ih
theorem cellsW_set : ∀ (l : List Wt) (k : Nat) (x : Wt), k < l.length → cellsW (l.set k x) = ((cellsW l).set (k * 2) (.int .u8 x.h)).set (k * 2 + 1) (.int .i64 x.p)
  | [], k, x, h => by simp at h
  | a :: l, 0, x, h => by simp [cellsW, cellsQ]
  | a :: l, k + 1, x, h => by
    have ih := cellsW_set l k x (by simpa using h)
    simp only [cellsW, List.set_cons_succ, List.flatMap_cons] at ih ⊢
    rw [ih]
    have e1 : (k + 1) * 2 = k * 2 + 1 + 1 := by omega
    rw [e1]
    simp [cellsQ]
/-- a cell of one's own row is written -/
theorem own_put {w : World} {B e size n g cap : Nat} {xs : List Value} (h : w.ownsRow B e size (.slice (some ⟨g, 0, none⟩) n cap) n xs) (o : Nat) (u : Value) (ho : o < xs.length) : (w.setCell ⟨g, o, none⟩ u).ownsRow B e size (.slice (some ⟨g, 0, none⟩) n cap) n (xs.set o u) := by
  rcases h.2 with ⟨e0, _⟩ | ⟨g', cap', cur, e0, hb, hg, h1, h2, h3, h4⟩
  · cases e0
  · cases e0
    refine ⟨by rw [List.length_set]; exact h.1, .inr ⟨g, cap, cur.setIfInBounds o u, rfl, hb, set3 hg o u, h1, h2, by rw [Array.size_setIfInBounds]; exact h3, ?_⟩⟩
    rw [Array.toList_setIfInBounds, ← h4, List.take_set]
/-- a queue's row -/
def Wr (w : World) (B : Nat) (v : Value) (l : List Wt) : Prop := w.ownsRow B 135 2 v l.length (cellsW l)
theorem Wr.nu {w w' : World} {B : Nat} {v : Value} {l : List Wt} (h : Wr w B v l) (k : Kp Nu w w') : Wr w' B v l := own_keep h (fun g e => k.block g (own_lt h e) (fun h => h))
theorem Wr.at_ {w : World} {B : Nat} {v : Value} {l : List Wt} (h : Wr w B v l) {k : Nat} (hk : k < l.length) : ∃ g cap, v = .slice (some ⟨g, 0, none⟩) l.length cap ∧ B ≤ g ∧ w.cell? ⟨g, k * 2, none⟩ = some (.int .u8 (we l k).h) ∧ w.cell? ⟨g, k * 2 + 1, none⟩ = some (.int .i64 (we l k).p) ∧ ∃ cur, w.heap[g]? = some (.cells cur 135 (0, 0)) := by
  rcases h.2 with ⟨_, h0⟩ | ⟨g, cap, cur, e, hB, hg, h1, h2, h3, h4⟩
  · omega
  · have key : ∀ j, j < 2 → cur[k * 2 + j]? = (cellsQ (we l k))[j]? := by
      intro j hj
      have e1 := cellsW_at l k _ (we_get hk) j hj
      rw [← h4, List.getElem?_take_of_lt (by omega)] at e1
      simpa using e1
    refine ⟨g, cap, e, hB, ?_, ?_, ⟨cur, hg⟩⟩
    · have := key 0 (by omega)
      simpa [World.cell?, hg, cellsQ] using this
    · have := key 1 (by omega)
      simpa [World.cell?, hg, cellsQ] using this
theorem len50 (w : World) (a : Option Addr) (n cap : Nat) : Calls Try.prog 50 #[.slice a n cap] w fun e w' => e = .returned (.int .i64 (n : Int)) ∧ w' = w := by
  go_enter Try.func50, Try.ntmps50
  go_wp2
  go_ret
  exact ⟨rfl, rfl⟩
set_option maxRecDepth 100000 in
set_option maxHeartbeats 1000000 in
theorem less160 (w : World) (B : Nat) (v : Value) (l : List Wt) (h : Wr w B v l) (i j : Nat) (hi : i < l.length) (hj : j < l.length) (hl : l.length ≤ 100000) : Calls Try.prog 160 #[v, .int .i64 (i : Int), .int .i64 (j : Int)] w fun e w' => e = .returned (.bool (decide (wlt (we l i) (we l j)))) ∧ Kp Nu w w' := by
  have mixed : Try.prog.follows .mixedOrders = true := by kernel_rfl
  obtain ⟨g, cap, rfl, _, x0, x1, _⟩ := h.at_ hi
  obtain ⟨g', cap', e, _, y0, y1, _⟩ := h.at_ hj
  cases e
  obtain ⟨N, eN⟩ : ∃ N, l.length = N := ⟨_, rfl⟩
  rw [eN] at hi hj hl ⊢
  have hiI : (i : Int) < (N : Int) := by omega
  have hjI : (j : Int) < (N : Int) := by omega
  have hi0 : (0 : Int) ≤ (i : Int) := by omega
  have hj0 : (0 : Int) ≤ (j : Int) := by omega
  have eti : (i : Int).toNat = i := by omega
  have etj : (j : Int).toNat = j := by omega
  generalize we l i = X at x0 x1 ⊢
  generalize we l j = Y at y0 y1 ⊢
  have HW : Hid (wlt X Y ↔ (X.p > Y.p ∨ (X.p = Y.p ∧ X.h < Y.h))) := hide Iff.rfl
  obtain ⟨b, hb⟩ : ∃ b, decide (wlt X Y) = b := ⟨_, rfl⟩
  rw [hb]
  have HB := hide hb
  clear hb h eN
  have k2 : Kp Nu w (w.drew).drew := (Kp.refl Nu w).drew.drew
  by_cases q : X.p = Y.p
  · have d1 : (X.p != Y.p) = false := by simpa using q
    have HB2 : Hid (b = decide (X.h < Y.h)) := by
      show _ = _
      rw [← HB.out]; unfold wlt
      by_cases q2 : X.h < Y.h
      · simp [q, q2]
      · simp [q, q2]
    clear HB HW q
    go_enter Try.func160, Try.ntmps160
    go_wp2_with fail
    go_region
    go_wp2_with fail
    go_region
    go_wp2
    go_ret
    exact ⟨by rw [HB2.out]; rfl, k2⟩
  · have d1 : (X.p != Y.p) = true := by simpa using q
    have HB2 : Hid (b = decide (X.p > Y.p)) := by
      show _ = _
      rw [← HB.out]; unfold wlt
      by_cases q2 : X.p > Y.p
      · simp [q2]
      · simp [q, q2]
    clear HB HW q
    go_enter Try.func160, Try.ntmps160
    go_wp2_with fail
    go_region
    go_wp2_with fail
    go_region
    go_wp2
    go_ret
    exact ⟨by rw [HB2.out]; rfl, k2⟩
set_option maxRecDepth 100000 in
set_option maxHeartbeats 2000000 in
theorem swap161 (w : World) (B : Nat) (v : Value) (l : List Wt) (h : Wr w B v l) (i j : Nat) (hi : i < l.length) (hj : j < l.length) (hl : l.length ≤ 100000) : Calls Try.prog 161 #[v, .int .i64 (i : Int), .int .i64 (j : Int)] w fun e w' => e = .returned (.tuple #[]) ∧ Wr w' B v (swp l i j) ∧ Kp (fun g => some g = v.ownBlock) w w' := by
  have mixed : Try.prog.follows .mixedOrders = true := by kernel_rfl
  obtain ⟨g, cap, rfl, _, x0, x1, cur, hcur⟩ := h.at_ hi
  obtain ⟨g', cap', e, _, y0, y1, _⟩ := h.at_ hj
  cases e
  have f0 := free3 hcur (i * 2)
  have f1 := free3 hcur (i * 2 + 1)
  have f2 := free3 hcur (j * 2)
  have f3 := free3 hcur (j * 2 + 1)
  obtain ⟨N, eN⟩ : ∃ N, l.length = N := ⟨_, rfl⟩
  have HH := hide (And.intro h (And.intro hi (And.intro hj eN)))
  rw [eN] at hi hj hl ⊢
  have hiI : (i : Int) < (N : Int) := by omega
  have hjI : (j : Int) < (N : Int) := by omega
  have hi0 : (0 : Int) ≤ (i : Int) := by omega
  have hj0 : (0 : Int) ≤ (j : Int) := by omega
  have eti : (i : Int).toNat = i := by omega
  have etj : (j : Int).toNat = j := by omega
  have HCU := hide hcur
  clear h eN hcur
  generalize hX : we l i = X at x0 x1
  generalize hY : we l j = Y at y0 y1
  have HXY := hide (And.intro hX hY)
  have s1 : (w.setCell ⟨g, i * 2, none⟩ (.int .u8 Y.h)).cell? ⟨g, j * 2, none⟩ = some (.int .u8 Y.h) := by
    by_cases e : i = j
    · subst e
      exact World.cell?_setCell_same _ _ _ x0
    · rw [World.cell?_setCell_other _ _ _ _ (by intro h; simp at h <;> omega)]
      exact y0
  have z1 : (w.setCell ⟨g, i * 2, none⟩ (.int .u8 Y.h)).cell? ⟨g, i * 2 + 1, none⟩ = some (.int .i64 X.p) := by
    rw [World.cell?_setCell_other _ _ _ _ (by intro h; simp at h)]
    exact x1
  have s2 : ((w.setCell ⟨g, i * 2, none⟩ (.int .u8 Y.h)).setCell ⟨g, i * 2 + 1, none⟩ (.int .i64 Y.p)).cell? ⟨g, j * 2 + 1, none⟩ = some (.int .i64 Y.p) := by
    by_cases e : i = j
    · subst e
      exact World.cell?_setCell_same _ _ _ z1
    · rw [World.cell?_setCell_other _ _ _ _ (by intro h; simp at h <;> omega), World.cell?_setCell_other _ _ _ _ (by intro h; simp at h <;> omega)]
      exact y1
  clear z1
  clear hX hY
  go_enter Try.func161, Try.ntmps161
  go_wp2_with fail
  go_region
  go_end0
  obtain ⟨h, hi, hj, eN⟩ := HH.out
  refine ⟨rfl, ?_, ?_⟩
  · have hc : cellsW (swp l i j) = ((((cellsW l).set (i * 2) (.int .u8 Y.h)).set (i * 2 + 1) (.int .i64 Y.p)).set (j * 2) (.int .u8 X.h)).set (j * 2 + 1) (.int .i64 X.p) := by
      unfold swp
      rw [cellsW_set _ j _ (by rw [List.length_set]; exact hj), cellsW_set l i _ hi, HXY.out.1, HXY.out.2]
    unfold Wr
    rw [swp_len, hc]
    unfold Wr at h
    rw [eN] at h ⊢
    have cl := cellsW_len l
    rw [eN] at cl hi hj
    have p1 := own_put h (i * 2) (.int .u8 Y.h) (by omega)
    have p2 := own_put p1 (i * 2 + 1) (.int .i64 Y.p) (by rw [List.length_set]; omega)
    have p3 := own_put p2 (j * 2) (.int .u8 X.h) (by rw [List.length_set, List.length_set]; omega)
    have p4 := own_put p3 (j * 2 + 1) (.int .i64 X.p) (by rw [List.length_set, List.length_set, List.length_set]; omega)
    exact p4
  · refine Kp.drew (Kp.andSet ?_ _ _ (.inr rfl))
    refine Kp.andSet ?_ _ _ (.inr rfl)
    refine Kp.andSet ?_ _ _ (.inr rfl)
    exact Kp.andSet (Kp.refl _ w) _ _ (.inr rfl)
end Go.Proofs.Ytbifmcadllilhaa.Rg
namespace Go.Proofs.Ytbifmcadllilhaa.Rg
open Go.RowKit Go.Shelf Go.Sort
set_option linter.unusedVariables false
section
theorem m_len (w : World) (pb off : Nat) (v : Value) (h : w.cell? ⟨pb, off, none⟩ = some v) : (method 317 133 (.pointer (some ⟨pb, off, none⟩)) "Len").run Try.prog w = .ok (50, v) w := by
  have e : (method 317 133 (.pointer (some ⟨pb, off, none⟩)) "Len").run Try.prog w = ((loadVar 99 ⟨pb, off, none⟩) >>= fun v => pure (50, v)).run Try.prog w := by kernel_rfl
  rw [e]
  simp [loadVar, go_sem, h]
theorem m_less (w : World) (pb off : Nat) (v : Value) (h : w.cell? ⟨pb, off, none⟩ = some v) : (method 317 133 (.pointer (some ⟨pb, off, none⟩)) "Less").run Try.prog w = .ok (160, v) w := by
  have e : (method 317 133 (.pointer (some ⟨pb, off, none⟩)) "Less").run Try.prog w = ((loadVar 99 ⟨pb, off, none⟩) >>= fun v => pure (160, v)).run Try.prog w := by kernel_rfl
  rw [e]
  simp [loadVar, go_sem, h]
theorem m_swap (w : World) (pb off : Nat) (v : Value) (h : w.cell? ⟨pb, off, none⟩ = some v) : (method 317 133 (.pointer (some ⟨pb, off, none⟩)) "Swap").run Try.prog w = .ok (161, v) w := by
  have e : (method 317 133 (.pointer (some ⟨pb, off, none⟩)) "Swap").run Try.prog w = ((loadVar 99 ⟨pb, off, none⟩) >>= fun v => pure (161, v)).run Try.prog w := by kernel_rfl
  rw [e]
  simp [loadVar, go_sem, h]
theorem m_push (w : World) (a : Addr) : (method 317 133 (.pointer (some a)) "Push").run Try.prog w = .ok (163, .pointer (some a)) w := by kernel_rfl
theorem m_pop (w : World) (a : Addr) : (method 317 133 (.pointer (some a)) "Pop").run Try.prog w = .ok (162, .pointer (some a)) w := by kernel_rfl
end
/-- a queue: its row, and the field that holds it -/
structure Qm (w : World) (pb off B : Nat) (v : Value) (l : List Wt) : Prop where
  cell : w.cell? ⟨pb, off, none⟩ = some v
  row : Wr w B v l
  ne : ∀ g, v.ownBlock = some g → g ≠ pb
theorem Qm.keep {w w' : World} {pb off B : Nat} {v : Value} {l l' : List Wt} (h : Qm w pb off B v l) (k : Kp (fun g => some g = v.ownBlock) w w') (hr : Wr w' B v l') : Qm w' pb off B v l' :=
  ⟨(World.cell?_of_block (k.block _ (World.block_lt_of_cell? w _ h.cell) (fun e => h.ne pb e.symm rfl))).trans h.cell, hr, h.ne⟩
theorem Qm.nu {w w' : World} {pb off B : Nat} {v : Value} {l : List Wt} (h : Qm w pb off B v l) (k : Kp Nu w w') : Qm w' pb off B v l := ⟨cell_nu h.cell k, h.row.nu k, h.ne⟩
theorem Wr.slice {w : World} {B : Nat} {v : Value} {l : List Wt} (h : Wr w B v l) : ∃ a cap, v = .slice a l.length cap := own_slice h
theorem Kp.sub {S : Nat → Prop} {a b c : World} (h : Kp S a b) (k : Kp Nu b c) : Kp S a c := h.trans k (fun _ _ e => e.elim)
set_option maxRecDepth 100000 in
set_option maxHeartbeats 1000000 in
theorem up95 (w : World) (pb off B : Nat) (v : Value) (l : List Wt) (j : Nat) (h : Qm w pb off B v l) (hj : j < l.length) (hl : l.length ≤ 100000) (hu : Hup l l.length j) :
    Calls Try.prog 95 #[.iface 133 (.pointer (some ⟨pb, off, none⟩)), .int .i64 (j : Int)] w fun e w' => e = .returned (.tuple #[]) ∧ ∃ l', Qm w' pb off B v l' ∧ l'.Perm l ∧ Hok l' l'.length ∧ Kp (fun g => some g = v.ownBlock) w w' := by
  obtain ⟨N, eN⟩ : ∃ N, l.length = N := ⟨_, rfl⟩
  obtain ⟨va, vc, hv⟩ := h.row.slice
  rw [eN] at hv
  subst hv
  have HU := hide (And.intro h (And.intro hu eN))
  rw [eN] at hj hl
  have hNI : (N : Int) ≤ 100000 := by omega
  clear h hu eN
  go_enter Try.func95, Try.ntmps95
  go_wp2
  go_loopw [1] (fun jv wr => ∃ j : Nat, jv = .int .i64 (j : Int) ∧ j < N ∧ Hid (∃ l', Qm wr pb off B (.slice va N vc) l' ∧ l'.Perm l ∧ Hup l' l'.length j ∧ l'.length = N ∧ Kp (fun g => some g = (Value.slice va N vc).ownBlock) w wr)) (fun jv _ => (intOf jv).toNat)
  case atStart => exact ⟨j, rfl, hj, hide ⟨l, HU.out.1, .refl _, HU.out.2.1, HU.out.2.2, Kp.refl _ _⟩⟩
  case round =>
    obtain ⟨j, rfl, hjN, hI⟩ := hrel
    obtain ⟨l', hq, hp, hu, hn, hk⟩ := hI.out
    obtain ⟨i, ei⟩ : ∃ i, (j - 1) / 2 = i := ⟨_, rfl⟩
    by_cases h0 : j = 0
    · subst h0
      have h00 : i = 0 := by omega
      subst h00
      have HO := hide (And.intro hq (And.intro hp (And.intro hu.zero hk)))
      clear hq hp hu hn hk hI ei
      go_wp2
      go_end0
      exact ⟨rfl, l', HO.out.1, HO.out.2.1, HO.out.2.2.1, HO.out.2.2.2⟩
    · have e2 : ((j : Int) - 1) / 2 = (i : Int) := by omega
      have hij : ((i : Int) == (j : Int)) = false := by
        rw [beq_eq_false_iff_ne]
        omega
      have hijI : ¬ (i : Int) = (j : Int) := by omega
      have LE := less160 wr B _ l' hq.row j i (by omega) (by omega) (by omega)
      have q1 := m_less wr pb off _ hq.cell
      have HO := hide (And.intro hq (And.intro hp (And.intro hu (And.intro hn (And.intro hk (And.intro ei h0))))))
      have hj1 : (1 : Int) ≤ (j : Int) := by omega
      obtain ⟨b, hb⟩ : ∃ b, decide (wlt (we l' j) (we l' i)) = b := ⟨_, rfl⟩
      rw [hb] at LE
      have HB := hide hb
      clear hq hp hu hn hk hI ei hb
      go_wp2_with fail
      refine LE.mono ?_; rintro e w1 ⟨rfl, hk1⟩
      obtain ⟨hq, hp, hu, hn, hk, ei, h0'⟩ := HO.out
      cases b with
      | false =>
        have hno : ¬ wlt (we l' j) (we l' i) := by simpa using HB.out
        have HF := hide (And.intro (hq.nu hk1) (And.intro hp (And.intro (hu.stop (by rw [ei]; exact hno)) (hk.sub hk1))))
        clear hq hp hu hn hk ei hno HO LE q1
        go_wp2
        go_end0
        exact ⟨rfl, l', HF.out.1, HF.out.2.1, HF.out.2.2.1, HF.out.2.2.2⟩
      | true =>
        have hyes : wlt (we l' j) (we l' i) := by simpa using HB.out
        have hq1 := hq.nu hk1
        have SW := swap161 w1 B _ l' hq1.row i j (by omega) (by omega) (by omega)
        have q2 := m_swap w1 pb off _ hq1.cell
        have HF := hide (And.intro hq1 (And.intro (hu.step (Nat.le_refl _) (by omega) (by omega) ei hyes) (And.intro (swp_perm (i := i) (j := j) (by omega : i < l'.length) (by omega)) (hk.sub hk1))))
        have HN := hide (And.intro hn (And.intro hp ei))
        clear hq hp hu hn hk ei hyes HO LE q1 hq1
        go_wp2_with fail
        refine SW.mono ?_; rintro e w2 ⟨rfl, hr2, hk2⟩
        obtain ⟨hq1, hu1, hp1, hk1'⟩ := HF.out
        have HG := hide (And.intro (hq1.keep hk2 hr2) (And.intro (hp1.trans HN.out.2.1) (And.intro hu1 (hk1'.trans hk2 (fun _ _ e => e)))))
        clear hq1 hu1 hp1 hk1' SW q2 hr2 hk2
        go_wp2
        refine ⟨⟨i, by first | rfl | (congr 1), by have := HN.out.2.2; omega, hide ⟨swp l' i j, HG.out.1, HG.out.2.1, ?_, by rw [swp_len]; exact HN.out.1, HG.out.2.2.2⟩⟩, by simp [intOf]; have := HN.out.2.2; omega⟩
        rw [swp_len]
        exact HG.out.2.2.1
end Go.Proofs.Ytbifmcadllilhaa.Rg
