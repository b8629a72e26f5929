import Derived.Test.YtbifmcadllilhaaGreatPpE
import Derived.Test.YtbifmcadllilhaaGreatPmA
import Derived.Deep.RegionHeld3
namespace Go.Proofs.YtbifmcadllilhaaGreat.Rg
open Go.RowKit Go.Shelf Go.Sort
set_option linter.unusedVariables false
/-- a cell of one's own row is written -/
theorem own_put {w : World} {B e size n g cap : Nat} {xs : List Value} (h : w.ownsRow B e size (.slice (some ⟨g, 0, none⟩) n cap) n xs) (o : Nat) (u : Value) (ho : o < xs.length) : (w.setCell ⟨g, o, none⟩ u).ownsRow B e size (.slice (some ⟨g, 0, none⟩) n cap) n (xs.set o u) := by
  rcases h.2 with ⟨e0, _⟩ | ⟨g', cap', cur, e0, hb, hg, h1, h2, h3, h4⟩
  · cases e0
  · cases e0
    refine ⟨by rw [List.length_set]; exact h.1, .inr ⟨g, cap, cur.setIfInBounds o u, rfl, hb, set3 hg o u, h1, h2, by rw [Array.size_setIfInBounds]; exact h3, ?_⟩⟩
    rw [Array.toList_setIfInBounds, ← h4, List.take_set]
theorem row1_at {w : World} {B e : Nat} {v : Value} {xs : List Value} (h : w.ownsRow B e 1 v xs.length xs) {i : Nat} {x : Value} (hi : xs[i]? = some x) : ∃ r cap, v = .slice (some ⟨r, 0, none⟩) xs.length cap ∧ B ≤ r ∧ w.cell? ⟨r, i, none⟩ = some x ∧ ∃ cur, w.heap[r]? = some (.cells cur e (0, 0)) := by
  rcases h.2 with ⟨e0, hn⟩ | ⟨g', cap', cur, e0, hb, hg, h1, h2, h3, h4⟩
  · have : i < xs.length := (List.getElem?_eq_some_iff.1 hi).1
    omega
  · refine ⟨g', cap', e0, hb, ?_, cur, hg⟩
    have hlt : i < xs.length := (List.getElem?_eq_some_iff.1 hi).1
    rw [← h4] at hi
    rw [List.getElem?_take] at hi
    split at hi
    · simp [World.cell?, hg]
      rw [← hi]; simp
    · cases hi
def cellsMs (ms : List Mv) : List Value := ms.flatMap cellsM
theorem cellsMs_snoc (l : List Mv) (s : Mv) : cellsMs (l ++ [s]) = cellsMs l ++ cellsM s := by simp [cellsMs]
theorem cellsMs_at : ∀ (l : List Mv) (k : Nat) (x : Mv), l[k]? = some x → ∀ j, j < 5 → (cellsMs l)[k * 5 + j]? = (cellsM x)[j]?
  | [], k, x, h, j, _ => by simp at h
  | a :: l, 0, x, h, j, hj => by
    simp at h; subst h
    simp only [cellsMs, List.flatMap_cons, Nat.zero_mul, Nat.zero_add]
    rw [List.getElem?_append_left (by simp [cellsM]; omega)]
  | a :: l, k + 1, x, h, j, hj => by
    have ih := cellsMs_at l k x (by simpa using h) j hj
    simp only [cellsMs, List.flatMap_cons]
    rw [List.getElem?_append_right (by simp [cellsM]; omega)]
    have : (k + 1) * 5 + j - (cellsM a).length = k * 5 + j := by simp [cellsM]; omega
    rw [this]; exact ih
theorem mvs_of_own {w : World} {B : Nat} {v : Value} {ms : List Mv} (h : w.ownsRow B 41 5 v ms.length (cellsMs ms)) (hb : ∀ m ∈ ms, MvB m) : Mvs w v ms := by
  obtain ⟨va, vc, ev⟩ := own_slice h
  refine ⟨va, vc, ev, fun i m hm => ?_⟩
  have hlt : i < ms.length := (List.getElem?_eq_some_iff.1 hm).1
  rcases h.2 with ⟨_, h0⟩ | ⟨r, cap, cur, e, hB, hg, h1, h2, h3, h4⟩
  · omega
  · have key : ∀ j, j < 5 → cur[i * 5 + j]? = (cellsM m)[j]? := by
      intro j hj
      have e1 := cellsMs_at ms i m hm j hj
      rw [← h4, List.getElem?_take_of_lt (by omega)] at e1
      simpa using e1
    rw [ev] at e
    simp only [Value.slice.injEq] at e
    refine ⟨r, 0, e.1, ?_, ?_, ?_, ?_, ?_, hb m (List.mem_of_getElem? hm)⟩
    · have := key 0 (by omega)
      simpa [World.cell?, hg, cellsM] using this
    · have := key 1 (by omega)
      simpa [World.cell?, hg, cellsM] using this
    · have := key 2 (by omega)
      simpa [World.cell?, hg, cellsM] using this
    · have := key 3 (by omega)
      simpa [World.cell?, hg, cellsM] using this
    · have := key 4 (by omega)
      simpa [World.cell?, hg, cellsM] using this
theorem mvs_nil (w : World) : Mvs w (.slice none 0 0) [] := ⟨none, 0, rfl, fun i m hm => by simp at hm⟩
theorem info59 : (Tryz.prog.info? 41).map (fun i => (i.zero, i.size, i.bytes)) = some (some (.agg #[.int .u8 0, .int .u8 0, .int .u64 0, .int .u64 0, .int .i64 0]), 5, 32) := by kernel_rfl
end Go.Proofs.YtbifmcadllilhaaGreat.Rg
namespace Go.Proofs.YtbifmcadllilhaaGreat.Rg
open Go.RowKit Go.Shelf Go.Sort
set_option linter.unusedVariables false
def cellsQ (x : Wt) : List Value := [.int .u8 x.h, .int .i64 x.p]
def cellsW (l : List Wt) : List Value := l.flatMap cellsQ
theorem cellsW_snoc (l : List Wt) (x : Wt) : cellsW (l ++ [x]) = cellsW l ++ cellsQ x := by simp [cellsW]
theorem cellsW_len : ∀ l : List Wt, (cellsW l).length = l.length * 2
  | [] => rfl
  | x :: l => by
    have := cellsW_len l
    simp only [cellsW, List.flatMap_cons, List.length_append] at this ⊢
    simp [cellsQ, this]; omega
theorem cellsW_at : ∀ (l : List Wt) (k : Nat) (x : Wt), l[k]? = some x → ∀ j, j < 2 → (cellsW l)[k * 2 + j]? = (cellsQ x)[j]?
  | [], k, x, h, j, _ => by simp at h
  | a :: l, 0, x, h, j, hj => by
    simp at h; subst h
    simp only [cellsW, List.flatMap_cons, Nat.zero_mul, Nat.zero_add]
    rw [List.getElem?_append_left (by simp [cellsQ]; omega)]
  | a :: l, k + 1, x, h, j, hj => by
    have ih := cellsW_at l k x (by simpa using h) j hj
    simp only [cellsW, List.flatMap_cons]
    rw [List.getElem?_append_right (by simp [cellsQ]; omega)]
    have : (k + 1) * 2 + j - (cellsQ a).length = k * 2 + j := by simp [cellsQ]; omega
    rw [this]; exact ih
theorem cellsW_set : ∀ (l : List Wt) (k : Nat) (x : Wt), k < l.length → cellsW (l.set k x) = ((cellsW l).set (k * 2) (.int .u8 x.h)).set (k * 2 + 1) (.int .i64 x.p)
  | [], k, x, h => by simp at h
  | a :: l, 0, x, h => by simp [cellsW, cellsQ]
  | a :: l, k + 1, x, h => by
    have ih := cellsW_set l k x (by simpa using h)
    simp only [cellsW, List.set_cons_succ, List.flatMap_cons] at ih ⊢
    rw [ih]
    have e1 : (k + 1) * 2 = k * 2 + 1 + 1 := by omega
    rw [e1]
    simp [cellsQ]
/-- a queue's row -/
def Wr (w : World) (B : Nat) (v : Value) (l : List Wt) : Prop := w.ownsRow B 105 2 v l.length (cellsW l)
theorem Wr.nu {w w' : World} {B : Nat} {v : Value} {l : List Wt} (h : Wr w B v l) (k : Kp Nu w w') : Wr w' B v l := own_keep h (fun g e => k.block g (own_lt h e) (fun h => h))
theorem Wr.at_ {w : World} {B : Nat} {v : Value} {l : List Wt} (h : Wr w B v l) {k : Nat} (hk : k < l.length) : ∃ g cap, v = .slice (some ⟨g, 0, none⟩) l.length cap ∧ B ≤ g ∧ w.cell? ⟨g, k * 2, none⟩ = some (.int .u8 (we l k).h) ∧ w.cell? ⟨g, k * 2 + 1, none⟩ = some (.int .i64 (we l k).p) ∧ ∃ cur, w.heap[g]? = some (.cells cur 105 (0, 0)) := by
  rcases h.2 with ⟨_, h0⟩ | ⟨g, cap, cur, e, hB, hg, h1, h2, h3, h4⟩
  · omega
  · have key : ∀ j, j < 2 → cur[k * 2 + j]? = (cellsQ (we l k))[j]? := by
      intro j hj
      have e1 := cellsW_at l k _ (we_get hk) j hj
      rw [← h4, List.getElem?_take_of_lt (by omega)] at e1
      simpa using e1
    refine ⟨g, cap, e, hB, ?_, ?_, ⟨cur, hg⟩⟩
    · have := key 0 (by omega)
      simpa [World.cell?, hg, cellsQ] using this
    · have := key 1 (by omega)
      simpa [World.cell?, hg, cellsQ] using this
theorem len50 (w : World) (a : Option Addr) (n cap : Nat) : Calls Tryz.prog 28 #[.slice a n cap] w fun e w' => e = .returned (.int .i64 (n : Int)) ∧ w' = w := by
  go_enter Tryz.func28, Tryz.ntmps28
  go_wp2
  go_ret
  exact ⟨rfl, rfl⟩
set_option maxRecDepth 100000 in
set_option maxHeartbeats 1000000 in
theorem less160 (w : World) (B : Nat) (v : Value) (l : List Wt) (h : Wr w B v l) (i j : Nat) (hi : i < l.length) (hj : j < l.length) (hl : l.length ≤ 100000) : Calls Tryz.prog 145 #[v, .int .i64 (i : Int), .int .i64 (j : Int)] w fun e w' => e = .returned (.bool (decide (wlt (we l i) (we l j)))) ∧ Kp Nu w w' := by
  have mixed : Tryz.prog.follows .mixedOrders = true := by kernel_rfl
  obtain ⟨g, cap, rfl, _, x0, x1, _⟩ := h.at_ hi
  obtain ⟨g', cap', e, _, y0, y1, _⟩ := h.at_ hj
  cases e
  obtain ⟨N, eN⟩ : ∃ N, l.length = N := ⟨_, rfl⟩
  rw [eN] at hi hj hl ⊢
  have hiI : (i : Int) < (N : Int) := by omega
  have hjI : (j : Int) < (N : Int) := by omega
  have hi0 : (0 : Int) ≤ (i : Int) := by omega
  have hj0 : (0 : Int) ≤ (j : Int) := by omega
  have eti : (i : Int).toNat = i := by omega
  have etj : (j : Int).toNat = j := by omega
  generalize we l i = X at x0 x1 ⊢
  generalize we l j = Y at y0 y1 ⊢
  have HW : Hid (wlt X Y ↔ (X.p > Y.p ∨ (X.p = Y.p ∧ X.h < Y.h))) := hide Iff.rfl
  obtain ⟨b, hb⟩ : ∃ b, decide (wlt X Y) = b := ⟨_, rfl⟩
  rw [hb]
  have HB := hide hb
  clear hb h eN
  have k2 : Kp Nu w (w.drew).drew := (Kp.refl Nu w).drew.drew
  by_cases q : X.p = Y.p
  · have d1 : (X.p != Y.p) = false := by simpa using q
    have HB2 : Hid (b = decide (X.h < Y.h)) := by
      show _ = _
      rw [← HB.out]; unfold wlt
      by_cases q2 : X.h < Y.h
      · simp [q, q2]
      · simp [q, q2]
    clear HB HW q
    go_enter Tryz.func145, Tryz.ntmps145
    go_wp2_with fail
    go_region
    go_wp2_with fail
    go_region
    go_wp2
    go_ret
    exact ⟨by rw [HB2.out]; rfl, k2⟩
  · have d1 : (X.p != Y.p) = true := by simpa using q
    have HB2 : Hid (b = decide (X.p > Y.p)) := by
      show _ = _
      rw [← HB.out]; unfold wlt
      by_cases q2 : X.p > Y.p
      · simp [q2]
      · simp [q, q2]
    clear HB HW q
    go_enter Tryz.func145, Tryz.ntmps145
    go_wp2_with fail
    go_region
    go_wp2_with fail
    go_region
    go_wp2
    go_ret
    exact ⟨by rw [HB2.out]; rfl, k2⟩
set_option maxRecDepth 100000 in
set_option maxHeartbeats 2000000 in
theorem swap161 (w : World) (B : Nat) (v : Value) (l : List Wt) (h : Wr w B v l) (i j : Nat) (hi : i < l.length) (hj : j < l.length) (hl : l.length ≤ 100000) : Calls Tryz.prog 146 #[v, .int .i64 (i : Int), .int .i64 (j : Int)] w fun e w' => e = .returned (.tuple #[]) ∧ Wr w' B v (swp l i j) ∧ Kp (fun g => some g = v.ownBlock) w w' := by
  have mixed : Tryz.prog.follows .mixedOrders = true := by kernel_rfl
  obtain ⟨g, cap, rfl, _, x0, x1, cur, hcur⟩ := h.at_ hi
  obtain ⟨g', cap', e, _, y0, y1, _⟩ := h.at_ hj
  cases e
  have f0 := free3 hcur (i * 2)
  have f1 := free3 hcur (i * 2 + 1)
  have f2 := free3 hcur (j * 2)
  have f3 := free3 hcur (j * 2 + 1)
  obtain ⟨N, eN⟩ : ∃ N, l.length = N := ⟨_, rfl⟩
  have HH := hide (And.intro h (And.intro hi (And.intro hj eN)))
  rw [eN] at hi hj hl ⊢
  have hiI : (i : Int) < (N : Int) := by omega
  have hjI : (j : Int) < (N : Int) := by omega
  have hi0 : (0 : Int) ≤ (i : Int) := by omega
  have hj0 : (0 : Int) ≤ (j : Int) := by omega
  have eti : (i : Int).toNat = i := by omega
  have etj : (j : Int).toNat = j := by omega
  have HCU := hide hcur
  clear h eN hcur
  generalize hX : we l i = X at x0 x1
  generalize hY : we l j = Y at y0 y1
  have HXY := hide (And.intro hX hY)
  have s1 : (w.setCell ⟨g, i * 2, none⟩ (.int .u8 Y.h)).cell? ⟨g, j * 2, none⟩ = some (.int .u8 Y.h) := by
    by_cases e : i = j
    · subst e
      exact World.cell?_setCell_same _ _ _ x0
    · rw [World.cell?_setCell_other _ _ _ _ (by intro h; simp at h <;> omega)]
      exact y0
  have z1 : (w.setCell ⟨g, i * 2, none⟩ (.int .u8 Y.h)).cell? ⟨g, i * 2 + 1, none⟩ = some (.int .i64 X.p) := by
    rw [World.cell?_setCell_other _ _ _ _ (by intro h; simp at h)]
    exact x1
  have s2 : ((w.setCell ⟨g, i * 2, none⟩ (.int .u8 Y.h)).setCell ⟨g, i * 2 + 1, none⟩ (.int .i64 Y.p)).cell? ⟨g, j * 2 + 1, none⟩ = some (.int .i64 Y.p) := by
    by_cases e : i = j
    · subst e
      exact World.cell?_setCell_same _ _ _ z1
    · rw [World.cell?_setCell_other _ _ _ _ (by intro h; simp at h <;> omega), World.cell?_setCell_other _ _ _ _ (by intro h; simp at h <;> omega)]
      exact y1
  clear z1
  clear hX hY
  go_enter Tryz.func146, Tryz.ntmps146
  go_wp2_with fail
  go_region
  go_end0
  obtain ⟨h, hi, hj, eN⟩ := HH.out
  refine ⟨rfl, ?_, ?_⟩
  · have hc : cellsW (swp l i j) = ((((cellsW l).set (i * 2) (.int .u8 Y.h)).set (i * 2 + 1) (.int .i64 Y.p)).set (j * 2) (.int .u8 X.h)).set (j * 2 + 1) (.int .i64 X.p) := by
      unfold swp
      rw [cellsW_set _ j _ (by rw [List.length_set]; exact hj), cellsW_set l i _ hi, HXY.out.1, HXY.out.2]
    unfold Wr
    rw [swp_len, hc]
    unfold Wr at h
    rw [eN] at h ⊢
    have cl := cellsW_len l
    rw [eN] at cl hi hj
    have p1 := own_put h (i * 2) (.int .u8 Y.h) (by omega)
    have p2 := own_put p1 (i * 2 + 1) (.int .i64 Y.p) (by rw [List.length_set]; omega)
    have p3 := own_put p2 (j * 2) (.int .u8 X.h) (by rw [List.length_set, List.length_set]; omega)
    have p4 := own_put p3 (j * 2 + 1) (.int .i64 X.p) (by rw [List.length_set, List.length_set, List.length_set]; omega)
    exact p4
  · refine Kp.drew (Kp.andSet ?_ _ _ (.inr rfl))
    refine Kp.andSet ?_ _ _ (.inr rfl)
    refine Kp.andSet ?_ _ _ (.inr rfl)
    exact Kp.andSet (Kp.refl _ w) _ _ (.inr rfl)
end Go.Proofs.YtbifmcadllilhaaGreat.Rg
namespace Go.Proofs.YtbifmcadllilhaaGreat.Rg
open Go.RowKit Go.Shelf Go.Sort
set_option linter.unusedVariables false
section
theorem m_len (w : World) (pb off : Nat) (v : Value) (h : w.cell? ⟨pb, off, none⟩ = some v) : (method 301 103 (.pointer (some ⟨pb, off, none⟩)) "Len").run Tryz.prog w = .ok (28, v) w := by
  have e : (method 301 103 (.pointer (some ⟨pb, off, none⟩)) "Len").run Tryz.prog w = ((loadVar 75 ⟨pb, off, none⟩) >>= fun v => pure (28, v)).run Tryz.prog w := by kernel_rfl
  rw [e]
  simp [loadVar, go_sem, h]
theorem m_less (w : World) (pb off : Nat) (v : Value) (h : w.cell? ⟨pb, off, none⟩ = some v) : (method 301 103 (.pointer (some ⟨pb, off, none⟩)) "Less").run Tryz.prog w = .ok (145, v) w := by
  have e : (method 301 103 (.pointer (some ⟨pb, off, none⟩)) "Less").run Tryz.prog w = ((loadVar 75 ⟨pb, off, none⟩) >>= fun v => pure (145, v)).run Tryz.prog w := by kernel_rfl
  rw [e]
  simp [loadVar, go_sem, h]
theorem m_swap (w : World) (pb off : Nat) (v : Value) (h : w.cell? ⟨pb, off, none⟩ = some v) : (method 301 103 (.pointer (some ⟨pb, off, none⟩)) "Swap").run Tryz.prog w = .ok (146, v) w := by
  have e : (method 301 103 (.pointer (some ⟨pb, off, none⟩)) "Swap").run Tryz.prog w = ((loadVar 75 ⟨pb, off, none⟩) >>= fun v => pure (146, v)).run Tryz.prog w := by kernel_rfl
  rw [e]
  simp [loadVar, go_sem, h]
theorem m_push (w : World) (a : Addr) : (method 301 103 (.pointer (some a)) "Push").run Tryz.prog w = .ok (149, .pointer (some a)) w := by kernel_rfl
theorem m_pop (w : World) (a : Addr) : (method 301 103 (.pointer (some a)) "Pop").run Tryz.prog w = .ok (148, .pointer (some a)) w := by kernel_rfl
end
/-- a queue: its row, and the field that holds it -/
structure Qm (w : World) (pb off B : Nat) (v : Value) (l : List Wt) : Prop where
  cell : w.cell? ⟨pb, off, none⟩ = some v
  row : Wr w B v l
  ne : ∀ g, v.ownBlock = some g → g ≠ pb
theorem Qm.keep {w w' : World} {pb off B : Nat} {v : Value} {l l' : List Wt} (h : Qm w pb off B v l) (k : Kp (fun g => some g = v.ownBlock) w w') (hr : Wr w' B v l') : Qm w' pb off B v l' :=
  ⟨(World.cell?_of_block (k.block _ (World.block_lt_of_cell? w _ h.cell) (fun e => h.ne pb e.symm rfl))).trans h.cell, hr, h.ne⟩
theorem Qm.nu {w w' : World} {pb off B : Nat} {v : Value} {l : List Wt} (h : Qm w pb off B v l) (k : Kp Nu w w') : Qm w' pb off B v l := ⟨cell_nu h.cell k, h.row.nu k, h.ne⟩
theorem Wr.slice {w : World} {B : Nat} {v : Value} {l : List Wt} (h : Wr w B v l) : ∃ a cap, v = .slice a l.length cap := own_slice h
theorem Kp.sub {S : Nat → Prop} {a b c : World} (h : Kp S a b) (k : Kp Nu b c) : Kp S a c := h.trans k (fun _ _ e => e.elim)
set_option maxRecDepth 100000 in
set_option maxHeartbeats 1000000 in
theorem up95 (w : World) (pb off B : Nat) (v : Value) (l : List Wt) (j : Nat) (h : Qm w pb off B v l) (hj : j < l.length) (hl : l.length ≤ 100000) (hu : Hup l l.length j) :
    Calls Tryz.prog 65 #[.iface 103 (.pointer (some ⟨pb, off, none⟩)), .int .i64 (j : Int)] w fun e w' => e = .returned (.tuple #[]) ∧ ∃ l', Qm w' pb off B v l' ∧ l'.Perm l ∧ Hok l' l'.length ∧ Kp (fun g => some g = v.ownBlock) w w' := by
  obtain ⟨N, eN⟩ : ∃ N, l.length = N := ⟨_, rfl⟩
  obtain ⟨va, vc, hv⟩ := h.row.slice
  rw [eN] at hv
  subst hv
  have HU := hide (And.intro h (And.intro hu eN))
  rw [eN] at hj hl
  have hNI : (N : Int) ≤ 100000 := by omega
  clear h hu eN
  go_enter Tryz.func65, Tryz.ntmps65
  go_wp2
  go_loopw [1] (fun jv wr => ∃ j : Nat, jv = .int .i64 (j : Int) ∧ j < N ∧ Hid (∃ l', Qm wr pb off B (.slice va N vc) l' ∧ l'.Perm l ∧ Hup l' l'.length j ∧ l'.length = N ∧ Kp (fun g => some g = (Value.slice va N vc).ownBlock) w wr)) (fun jv _ => (intOf jv).toNat)
  case atStart => exact ⟨j, rfl, hj, hide ⟨l, HU.out.1, .refl _, HU.out.2.1, HU.out.2.2, Kp.refl _ _⟩⟩
  case round =>
    obtain ⟨j, rfl, hjN, hI⟩ := hrel
    obtain ⟨l', hq, hp, hu, hn, hk⟩ := hI.out
    obtain ⟨i, ei⟩ : ∃ i, (j - 1) / 2 = i := ⟨_, rfl⟩
    by_cases h0 : j = 0
    · subst h0
      have h00 : i = 0 := by omega
      subst h00
      have HO := hide (And.intro hq (And.intro hp (And.intro hu.zero hk)))
      clear hq hp hu hn hk hI ei
      go_wp2
      go_end0
      exact ⟨rfl, l', HO.out.1, HO.out.2.1, HO.out.2.2.1, HO.out.2.2.2⟩
    · have e2 : ((j : Int) - 1) / 2 = (i : Int) := by omega
      have hij : ((i : Int) == (j : Int)) = false := by
        rw [beq_eq_false_iff_ne]
        omega
      have hijI : ¬ (i : Int) = (j : Int) := by omega
      have LE := less160 wr B _ l' hq.row j i (by omega) (by omega) (by omega)
      have q1 := m_less wr pb off _ hq.cell
      have HO := hide (And.intro hq (And.intro hp (And.intro hu (And.intro hn (And.intro hk (And.intro ei h0))))))
      have hj1 : (1 : Int) ≤ (j : Int) := by omega
      obtain ⟨b, hb⟩ : ∃ b, decide (wlt (we l' j) (we l' i)) = b := ⟨_, rfl⟩
      rw [hb] at LE
      have HB := hide hb
      clear hq hp hu hn hk hI ei hb
      go_wp2_with fail
      refine LE.mono ?_; rintro e w1 ⟨rfl, hk1⟩
      obtain ⟨hq, hp, hu, hn, hk, ei, h0'⟩ := HO.out
      cases b with
      | false =>
        have hno : ¬ wlt (we l' j) (we l' i) := by simpa using HB.out
        have HF := hide (And.intro (hq.nu hk1) (And.intro hp (And.intro (hu.stop (by rw [ei]; exact hno)) (hk.sub hk1))))
        clear hq hp hu hn hk ei hno HO LE q1
        go_wp2
        go_end0
        exact ⟨rfl, l', HF.out.1, HF.out.2.1, HF.out.2.2.1, HF.out.2.2.2⟩
      | true =>
        have hyes : wlt (we l' j) (we l' i) := by simpa using HB.out
        have hq1 := hq.nu hk1
        have SW := swap161 w1 B _ l' hq1.row i j (by omega) (by omega) (by omega)
        have q2 := m_swap w1 pb off _ hq1.cell
        have HF := hide (And.intro hq1 (And.intro (hu.step (Nat.le_refl _) (by omega) (by omega) ei hyes) (And.intro (swp_perm (i := i) (j := j) (by omega : i < l'.length) (by omega)) (hk.sub hk1))))
        have HN := hide (And.intro hn (And.intro hp ei))
        clear hq hp hu hn hk ei hyes HO LE q1 hq1
        go_wp2_with fail
        refine SW.mono ?_; rintro e w2 ⟨rfl, hr2, hk2⟩
        obtain ⟨hq1, hu1, hp1, hk1'⟩ := HF.out
        have HG := hide (And.intro (hq1.keep hk2 hr2) (And.intro (hp1.trans HN.out.2.1) (And.intro hu1 (hk1'.trans hk2 (fun _ _ e => e)))))
        clear hq1 hu1 hp1 hk1' SW q2 hr2 hk2
        go_wp2
        refine ⟨⟨i, by first | rfl | (congr 1), by have := HN.out.2.2; omega, hide ⟨swp l' i j, HG.out.1, HG.out.2.1, ?_, by rw [swp_len]; exact HN.out.1, HG.out.2.2.2⟩⟩, by simp [intOf]; have := HN.out.2.2; omega⟩
        rw [swp_len]
        exact HG.out.2.2.1
end Go.Proofs.YtbifmcadllilhaaGreat.Rg
