import Derived.Test.YtbifmcadllilhaaGreatPmF
import Derived.Test.YtbifmcadllilhaaGreatPmB
namespace Go.Proofs.YtbifmcadllilhaaGreat.Rg
open Go.RowKit Go.Shelf Go.Sort
set_option linter.unusedVariables false
/-- a row but for its end -/
theorem own_less {w : World} {B e size n g cap : Nat} {xs : List Value} (h : w.ownsRow B e size (.slice (some ⟨g, 0, none⟩) (n + 1) cap) (n + 1) xs) : w.ownsRow B e size (.slice (some ⟨g, 0, none⟩) n cap) n (xs.take (n * size)) := by
  rcases h.2 with ⟨e0, _⟩ | ⟨g', cap', cur, e0, hb, hg, h1, h2, h3, h4⟩
  · cases e0
  · cases e0
    have hl := h.1
    have hm : n * size ≤ (n + 1) * size := Nat.mul_le_mul_right _ (Nat.le_succ n)
    refine ⟨by rw [List.length_take]; omega, .inr ⟨g, cap, cur, rfl, hb, hg, by omega, h2, h3, ?_⟩⟩
    rw [← h4, List.take_take, Nat.min_eq_left hm]
theorem cellsW_take (l : List Wt) (n : Nat) : (cellsW l).take (n * 2) = cellsW (l.take n) := by
  induction n generalizing l with
  | zero => simp [cellsW]
  | succ n ih =>
    cases l with
    | nil => simp [cellsW]
    | cons a l =>
      have e : (n + 1) * 2 = n * 2 + 1 + 1 := by omega
      have := ih l
      simp only [cellsW, List.flatMap_cons, List.take_succ_cons] at this ⊢
      rw [e]
      simp [cellsQ, this]
set_option maxRecDepth 100000 in
set_option maxHeartbeats 1000000 in
theorem pop162 (w : World) (pb off B : Nat) (cs : Array Value) (v : Value) (l : List Wt) (n : Nat) (h : Qb w pb off B cs v l) (hn : l.length = n + 1) (hl : l.length ≤ 100000) :
    Calls Tryz.prog 148 #[.pointer (some ⟨pb, off, none⟩)] w fun e w' => ∃ u, e = .returned u ∧ ∃ v', Qb w' pb off B (cs.setIfInBounds off v') v' (l.take n) ∧ Qf w w' pb off cs v v' := by
  have mixed : Tryz.prog.follows .mixedOrders = true := by kernel_rfl
  obtain ⟨g, cap, hv, hBg, x0, x1, cur, hcur⟩ := h.row.at_ (k := n) (by omega)
  rw [hn] at hv
  subst hv
  have c0 := h.qm.cell
  have f0 : w.frozen? ⟨pb, off, none⟩ = false := free3 h.blk off
  have hoff : off < cs.size := by
    have := h.at_
    rcases Nat.lt_or_ge off cs.size with h | h
    · exact h
    · rw [Array.getElem?_eq_none h] at this; cases this
  have hne : g ≠ pb := h.qm.ne g rfl
  have HU := hide (And.intro h (And.intro hn (And.intro hoff hne)))
  have hnI : (n : Int) + 1 ≤ 100000 := by omega
  have hn0 : (0 : Int) ≤ (n : Int) := by omega
  have etn : (n : Int).toNat = n := by omega
  generalize we l n = X at x0 x1
  have hcapI : (n : Int) ≤ (cap : Int) := by
    have hr : w.ownsRow B 105 2 (.slice (some ⟨g, 0, none⟩) (n + 1) cap) (n + 1) (cellsW l) := by
      have := h.row
      unfold Wr at this
      rw [hn] at this
      exact this
    rcases hr.2 with ⟨e0, _⟩ | ⟨g', cap', cur', e0, hb', hg', h1', h2', h3', h4'⟩
    · cases e0
    · cases e0; omega
  obtain ⟨M, eM⟩ : ∃ M, n + 1 = M := ⟨_, rfl⟩
  rw [eM] at c0 ⊢
  have eM1 : (M : Int) - 1 = (n : Int) := by omega
  have hMI : (M : Int) ≤ 100000 := by omega
  have hnM : (n : Int) < (M : Int) := by omega
  have HM := hide eM
  clear h hn hcur hoff hl hnI eM mixed
  have hbA : (w.alloc (.cells #[.int .u8 X.h, .int .i64 X.p] 105)).heap[pb]? = some (.cells cs 77 (0, 0)) := (Below.heap_alloc w _ pb (blk_lt HU.out.1.blk)).trans HU.out.1.blk
  have c1 : (w.alloc (.cells #[.int .u8 X.h, .int .i64 X.p] 105)).cell? ⟨pb, off, none⟩ = some (.slice (some ⟨g, 0, none⟩) M cap) := by
    have := HU.out.1.at_
    rw [HM.out] at this
    simp [World.cell?, hbA, this]
  have f1 : (w.alloc (.cells #[.int .u8 X.h, .int .i64 X.p] 105)).frozen? ⟨pb, off, none⟩ = false := free3 hbA off
  have bB := heap_alloc_new w (.cells #[.int .u8 X.h, .int .i64 X.p] 105)
  have hpl : pb < w.heap.size := blk_lt HU.out.1.blk
  have kA := Kp.alloc w (.cells #[.int .u8 X.h, .int .i64 X.p] 105) Nu
  have kS := Kp.setCell (w.alloc (.cells #[.int .u8 X.h, .int .i64 X.p] 105)) ⟨pb, off, none⟩ (.slice (some ⟨g, 0, none⟩) n cap)
  have bC : ((w.alloc (.cells #[.int .u8 X.h, .int .i64 X.p] 105)).setCell ⟨pb, off, none⟩ (.slice (some ⟨g, 0, none⟩) n cap)).heap[w.heap.size]? = some (.cells #[.int .u8 X.h, .int .i64 X.p] 105 (0, 0)) := (kS.block w.heap.size (by rw [World.size_alloc]; omega) (fun e => by have e2 : w.heap.size = pb := e; omega)).trans bB
  obtain ⟨y0, y1⟩ := cell2' bC
  clear hbA bB bC kA kS
  go_enter Tryz.func148, Tryz.ntmps148
  go_wp2
  go_ret
  obtain ⟨h, hn, hoff, hne⟩ := HU.out
  have kS := Kp.setCell w ⟨pb, off, none⟩ (.slice (some ⟨g, 0, none⟩) n cap)
  have kA := Kp.alloc (w.setCell ⟨pb, off, none⟩ (.slice (some ⟨g, 0, none⟩) n cap)) (.cells #[.int .u8 X.h, .int .i64 X.p] 105) Nu
  have b1 := set3 h.blk off (.slice (some ⟨g, 0, none⟩) n cap)
  refine ⟨_, rfl, .slice (some ⟨g, 0, none⟩) n cap, ⟨(kA.block pb (blk_lt b1) (fun h => h)).trans b1, by simp [hoff], ?_⟩, ⟨?_, .inl rfl⟩⟩
  · unfold Wr
    have hr := h.row
    unfold Wr at hr
    rw [hn] at hr
    have h1 := own_less hr
    rw [cellsW_take] at h1
    have e1 : (l.take n).length = n := by rw [List.length_take]; omega
    rw [e1]
    exact own_keep h1 (fun g' e => by
      have e2 : g = g' := by simpa [Value.ownBlock] using e
      subst e2
      have hlt : g < w.heap.size := own_lt h1 rfl
      exact (kA.block g (by rw [World.size_setCell]; omega) (fun h => h)).trans (kS.block g hlt (fun e => hne e)))
  · exact (kS.mono (T := fun x => x = pb ∨ some x = (Value.slice (some ⟨g, 0, none⟩) M cap).ownBlock) (fun _ _ e => .inl e)).sub kA
theorem we_take {l : List Wt} {n k : Nat} (h : k < n) : we (l.take n) k = we l k := by
  unfold we
  rw [List.getD_eq_getElem?_getD, List.getD_eq_getElem?_getD, List.getElem?_take_of_lt h]
theorem Hok.take {l : List Wt} {n : Nat} (h : Hok l n) (hn : n ≤ l.length) : Hok (l.take n) (l.take n).length := fun c h1 h2 => by
  rw [List.length_take] at h2
  rw [we_take (by omega), we_take (by omega)]
  exact h c h1 (by omega)
theorem Hok.dn0 {l : List Wt} {n : Nat} (x : Wt) (h : Hok l n) : Hdn (l.set 0 x) n 0 := by
  refine ⟨fun c h1 h2 hne => ?_, fun c _ _ _ h4 => by omega⟩
  have e1 : we (l.set 0 x) c = we l c := by unfold we; rw [List.getD_eq_getElem?_getD, List.getD_eq_getElem?_getD, List.getElem?_set_ne (by omega)]
  have e2 : we (l.set 0 x) ((c - 1) / 2) = we l ((c - 1) / 2) := by unfold we; rw [List.getD_eq_getElem?_getD, List.getD_eq_getElem?_getD, List.getElem?_set_ne (by omega)]
  rw [e1, e2]
  exact h c h1 h2
theorem Hdn.dnswap {l : List Wt} {n : Nat} (hn : l.length = n + 1) (h : Hdn l l.length 0) : Hdn (swp l 0 n) n 0 := by
  have sa := swp_at (l := l) (i := 0) (j := n) (by omega) (by omega)
  refine ⟨fun c h1 h2 hne => ?_, fun c _ _ _ h4 => by omega⟩
  rw [sa, sa, if_neg (by omega), if_neg (by omega), if_neg (by omega), if_neg hne]
  exact h.a c h1 (by omega) hne
theorem take_last {l : List Wt} {n : Nat} (hn : l.length = n + 1) : l = l.take n ++ [we l n] := by
  have h := we_get (l := l) (k := n) (by omega)
  have e : l.take (n + 1) = l.take n ++ [we l n] := by rw [List.take_add_one, h]; rfl
  rw [← e, List.take_of_length_le (by omega)]
set_option maxRecDepth 100000 in
set_option maxHeartbeats 1000000 in
theorem hpop97 (w : World) (pb off B : Nat) (cs : Array Value) (v : Value) (l : List Wt) (h : Qb w pb off B cs v l) (h0 : 0 < l.length) (hl : l.length ≤ 90000) (hok : Hdn l l.length 0) :
    Calls Tryz.prog 67 #[.iface 103 (.pointer (some ⟨pb, off, none⟩))] w fun e w' => ∃ u, e = .returned u ∧ ∃ v' l', Qb w' pb off B (cs.setIfInBounds off v') v' l' ∧ (l' ++ [we l 0]).Perm l ∧ Hok l' l'.length ∧ Qf w w' pb off cs v v' := by
  obtain ⟨n, hn⟩ : ∃ n, l.length = n + 1 := ⟨l.length - 1, by omega⟩
  obtain ⟨va, vc, hv⟩ := h.row.slice
  have SW := swap161 w B v l h.row 0 n h0 (by omega) (by omega)
  have q1 := m_len w pb off _ h.qm.cell
  have q2 := m_swap w pb off _ h.qm.cell
  have LN := len50 w va (n + 1) vc
  rw [hn] at hv
  subst hv
  have HU := hide (And.intro h (And.intro hn (And.intro hok hl)))
  have hnI : (n : Int) + 1 ≤ 90000 := by omega
  clear h h0 hok hl hn
  go_enter Tryz.func67, Tryz.ntmps67
  go_wp2_with fail
  refine LN.mono ?_; rintro e w1 ⟨rfl, hw⟩
  obtain rfl := hw
  clear LN q1
  go_wp2_with fail
  refine SW.mono ?_; rintro e w2 ⟨rfl, hr2, hk2⟩
  obtain ⟨h, hn, hok, hl⟩ := HU.out
  have hb2 := h.turn hk2 (h.qm.keep hk2 hr2)
  have DN := down110 w2 pb off B _ (swp l 0 n) 0 n hb2.qm (by rw [swp_len]; omega) (Nat.zero_le _) (by rw [swp_len]; omega) (hok.dnswap hn)
  have HB := hide (And.intro hb2 hk2)
  clear SW q2 hr2 hk2 hb2 h hn hok hl
  go_wp2_with fail
  refine DN.mono ?_; rintro e w3 ⟨b, l3, rfl, hE⟩
  have hb3 := HB.out.1.turn hE.kp hE.q
  have hl3 : l3.length = n + 1 := by rw [hE.len, swp_len]; exact HU.out.2.1
  have q3 := m_pop w3 ⟨pb, off, none⟩
  have PO := pop162 w3 pb off B cs _ l3 n hb3 hl3 (by have := HU.out.2.2.2; have := HU.out.2.1; omega)
  have HC := hide (And.intro hE hl3)
  clear DN hE hb3 hl3
  go_wp2_with fail
  refine PO.mono ?_; rintro e w4 ⟨u, rfl, v', hq4, hf4⟩
  have HD := hide (And.intro hq4 hf4)
  clear PO q3 hq4 hf4
  go_wp2
  go_ret
  obtain ⟨hE, hl3⟩ := HC.out
  obtain ⟨h, hn, hok, hl⟩ := HU.out
  refine ⟨_, rfl, v', l3.take n, HD.out.1, ?_, hE.ok.take (by omega), ?_⟩
  · have e1 : we l3 n = we l 0 := by
      rw [hE.far n (Nat.le_refl _), swp_at (by omega) (by omega), if_pos rfl]
    rw [← e1, ← take_last hl3]
    exact hE.p.trans (swp_perm (by omega) (by omega))
  · exact ((Qf.of_row (cs := cs) HB.out.2).trans (Qf.of_row (cs := cs) hE.kp)).trans HD.out.2
end Go.Proofs.YtbifmcadllilhaaGreat.Rg
namespace Go.Proofs.YtbifmcadllilhaaGreat.Rg
open Go.RowKit Go.Shelf Go.Sort
set_option linter.unusedVariables false
theorem Hok.up0 {l : List Wt} {n : Nat} (h : Hok l n) : Hup l n 0 := ⟨fun c h1 h2 _ => h c h1 h2, fun c _ _ _ h4 => by omega⟩
set_option maxRecDepth 100000 in
set_option maxHeartbeats 1000000 in
theorem hfix96 (w : World) (pb off B : Nat) (cs : Array Value) (v : Value) (l : List Wt) (h : Qb w pb off B cs v l) (h0 : 0 < l.length) (hl : l.length ≤ 90000) (hd : Hdn l l.length 0) :
    Calls Tryz.prog 66 #[.iface 103 (.pointer (some ⟨pb, off, none⟩)), .int .i64 0] w fun e w' => e = .returned (.tuple #[]) ∧ ∃ l', Qb w' pb off B cs v l' ∧ l'.Perm l ∧ Hok l' l'.length ∧ Kp (fun g => some g = v.ownBlock) w w' := by
  obtain ⟨va, vc, hv⟩ := h.row.slice
  obtain ⟨N, eN⟩ : ∃ N, l.length = N := ⟨_, rfl⟩
  rw [eN] at hv
  subst hv
  have LN := len50 w va N vc
  have q1 := m_len w pb off _ h.qm.cell
  have DN := down110 w pb off B _ l 0 l.length h.qm (Nat.le_refl _) (Nat.zero_le _) (by omega) hd
  rw [eN] at DN
  have HU := hide (And.intro h (And.intro h0 (And.intro eN hl)))
  rw [eN] at hl
  clear h h0 hd eN
  go_enter Tryz.func66, Tryz.ntmps66
  go_wp2_with fail
  refine LN.mono ?_; rintro e w1 ⟨rfl, hw⟩
  obtain rfl := hw
  clear LN q1
  go_wp2_with fail
  refine DN.mono ?_; rintro e w3 ⟨b, l3, rfl, hE⟩
  have HE := hide hE
  clear DN
  cases b with
  | true =>
    clear hE
    go_wp2
    go_end0
    obtain ⟨h, h0, eN, _⟩ := HU.out
    refine ⟨rfl, l3, h.turn HE.out.kp HE.out.q, HE.out.p, ?_, HE.out.kp⟩
    rw [HE.out.len]
    exact HE.out.ok
  | false =>
    have hok3 : Hok l3 l3.length := by rw [hE.len]; exact hE.ok
    have UP := up95 w3 pb off B _ l3 0 hE.q (by rw [hE.len]; have := HU.out.2.1; have := HU.out.2.2.1; omega) (by rw [hE.len]; omega) hok3.up0
    clear hE hok3
    go_wp2_with fail
    refine UP.mono ?_; rintro e w4 ⟨rfl, l4, hq4, hp4, hk4, hkp4⟩
    have HF := hide (And.intro hq4 (And.intro hp4 (And.intro hk4 hkp4)))
    clear UP hq4 hp4 hk4 hkp4
    go_wp2
    go_end0
    obtain ⟨hq4, hp4, hk4, hkp4⟩ := HF.out
    have h3 := HU.out.1.turn HE.out.kp HE.out.q
    exact ⟨rfl, l4, h3.turn hkp4 hq4, hp4.trans HE.out.p, hk4, HE.out.kp.trans hkp4 (fun _ _ e => e)⟩
/-- what is left to wait for -/
def lsn (l : List Wt) (d : Int) : List Wt := if (we l 0).p - d > 0 then l.set 0 ⟨(we l 0).h, (we l 0).p - d⟩ else l.drop 1
theorem set_same {cs : Array Value} {off : Nat} {v : Value} (h : cs[off]? = some v) : cs.setIfInBounds off v = cs := by
  apply Array.ext_getElem?
  intro i
  rw [Array.getElem?_setIfInBounds]
  by_cases e : off = i
  · subst e
    rw [if_pos rfl, h]
    have : off < cs.size := by
      rcases Nat.lt_or_ge off cs.size with h2 | h2
      · exact h2
      · rw [Array.getElem?_eq_none h2] at h; cases h
    rw [if_pos this]
  · rw [if_neg e]
theorem drop_perm {l l' : List Wt} {x : Wt} (h0 : 0 < l.length) (h : (l' ++ [we (l.set 0 x) 0]).Perm (l.set 0 x)) : l'.Perm (l.drop 1) := by
  cases l with
  | nil => cases h0
  | cons a l =>
    have e : we ((a :: l).set 0 x) 0 = x := rfl
    rw [e] at h
    have h2 : (x :: l').Perm (x :: l) := (List.perm_append_singleton x l').symm.trans h
    exact h2.cons_inv
set_option maxRecDepth 100000 in
set_option maxHeartbeats 1000000 in
theorem lessen77 (w : World) (pb off B : Nat) (cs : Array Value) (v : Value) (l : List Wt) (d : Int) (h : Qb w pb off B cs v l) (h0 : 0 < l.length) (hl : l.length ≤ 90000) (hok : Hok l l.length) (hp : 0 ≤ d ∧ d ≤ (we l 0).p ∧ (we l 0).p ≤ 4611686018427387904) :
    Calls Tryz.prog 51 #[.pointer (some ⟨pb, off, none⟩), .int .i64 d] w fun e w' => e = .returned (.tuple #[]) ∧ ∃ v' l', Qb w' pb off B (cs.setIfInBounds off v') v' l' ∧ l'.Perm (lsn l d) ∧ Hok l' l'.length ∧ Qf w w' pb off cs v v' := by
  have mixed : Tryz.prog.follows .mixedOrders = true := by kernel_rfl
  obtain ⟨g, cap, hv, hBg, x0, x1, cur, hcur⟩ := h.row.at_ (k := 0) h0
  obtain ⟨N, eN⟩ : ∃ N, l.length = N := ⟨_, rfl⟩
  rw [eN] at hv
  subst hv
  have c0 := h.qm.cell
  have hne : g ≠ pb := h.qm.ne g rfl
  simp only [Nat.zero_mul, Nat.zero_add] at x0 x1
  have f1 := free3 hcur 1
  obtain ⟨X, eX⟩ : ∃ X, we l 0 = X := ⟨_, rfl⟩
  rw [eX] at x0 x1
  have ew : IntKind.i64.wrap (X.p - d) = X.p - d := by rw [IntKind.wrap_i64]; rw [eX] at hp; omega
  have ew2 : wrap64 (X.p - d) = X.p - d := by rw [eX] at hp; unfold wrap64; omega
  -- the row behind the subtraction
  have hrow : w.ownsRow B 105 2 (.slice (some ⟨g, 0, none⟩) N cap) N (cellsW l) := by
    have := h.row
    unfold Wr at this
    rw [eN] at this
    exact this
  have hset : cellsW (l.set 0 ⟨X.h, X.p - d⟩) = (cellsW l).set 1 (.int .i64 (X.p - d)) := by
    rw [cellsW_set l 0 _ h0]
    simp only [Nat.zero_mul, Nat.zero_add]
    congr 1
    have hg := cellsW_at l 0 _ (we_get h0) 0 (by omega)
    simp only [Nat.zero_mul, Nat.zero_add, cellsQ, List.getElem?_cons_zero] at hg
    rw [eX] at hg
    apply List.ext_getElem?
    intro k
    rw [List.getElem?_set]
    by_cases hk : 0 = k
    · subst hk
      rw [hg]
      simp [cellsW_len, h0]
    · simp [hk]
  have hput := own_put hrow 1 (.int .i64 (X.p - d)) (by rw [cellsW_len]; omega)
  rw [← hset] at hput
  have kS := Kp.setCell w ⟨g, 1, none⟩ (.int .i64 (X.p - d))
  have hrow1 : Wr (w.setCell ⟨g, 1, none⟩ (.int .i64 (X.p - d))) B (.slice (some ⟨g, 0, none⟩) N cap) (l.set 0 ⟨X.h, X.p - d⟩) := by
    unfold Wr
    rw [List.length_set, eN]
    exact hput
  have kR : Kp (fun x => some x = (Value.slice (some ⟨g, 0, none⟩) N cap).ownBlock) w (w.setCell ⟨g, 1, none⟩ (.int .i64 (X.p - d))) := kS.mono (fun _ _ e => by show some _ = some g; rw [e])
  have hb1 := h.turn kR (h.qm.keep kR hrow1)
  have hd1 := hok.dn0 ⟨X.h, X.p - d⟩
  have HF := hfix96 _ pb off B cs _ (l.set 0 ⟨X.h, X.p - d⟩) hb1 (by rw [List.length_set]; exact h0) (by rw [List.length_set]; exact hl) (by rw [List.length_set]; exact hd1)
  have HP := hpop97 _ pb off B cs _ (l.set 0 ⟨X.h, X.p - d⟩) hb1 (by rw [List.length_set]; exact h0) (by rw [List.length_set]; exact hl) (by rw [List.length_set]; exact hd1)
  have HU := hide (And.intro hb1 (And.intro hd1 (And.intro kR (And.intro eN (And.intro eX (And.intro h0 (And.intro hl (And.intro hp hok))))))))
  have hN0 : (0 : Int) < (N : Int) := by omega
  clear h hok hp hcur hrow hset hput kS hrow1 kR hb1 hd1 eN eX hl h0
  by_cases hc : d < X.p
  · clear HP
    go_enter Tryz.func51, Tryz.ntmps51
    go_wp2_with fail
    refine HF.mono ?_; rintro e w1 ⟨rfl, l1, hq1, hp1, hk1, hkp1⟩
    have HG := hide (And.intro hq1 (And.intro hp1 (And.intro hk1 hkp1)))
    clear HF hq1 hp1 hk1 hkp1
    go_wp2
    go_end0
    obtain ⟨hb1, hd1, kR, eN, eX, h0, hl, hp, hok⟩ := HU.out
    obtain ⟨hq1, hp1, hk1, hkp1⟩ := HG.out
    refine ⟨rfl, _, l1, ?_, ?_, hk1, (Qf.of_row (cs := cs) kR).trans (Qf.of_row (cs := cs) hkp1)⟩
    · rw [set_same hb1.at_]; exact hq1
    · unfold lsn; rw [eX, if_pos (by omega)]; exact hp1
  · clear HF
    go_enter Tryz.func51, Tryz.ntmps51
    go_wp2_with fail
    refine HP.mono ?_; rintro e w1 ⟨u, rfl, v1, l1, hq1, hp1, hk1, hkp1⟩
    have HG := hide (And.intro hq1 (And.intro hp1 (And.intro hk1 hkp1)))
    clear HP hq1 hp1 hk1 hkp1
    go_wp2
    go_end0
    obtain ⟨hb1, hd1, kR, eN, eX, h0, hl, hp, hok⟩ := HU.out
    obtain ⟨hq1, hp1, hk1, hkp1⟩ := HG.out
    refine ⟨rfl, v1, l1, hq1, ?_, hk1, (Qf.of_row (cs := cs) kR).trans hkp1⟩
    unfold lsn
    rw [eX, if_neg (by omega)]
    exact drop_perm h0 hp1
end Go.Proofs.YtbifmcadllilhaaGreat.Rg
namespace Go.Proofs.YtbifmcadllilhaaGreat.Pn
set_option linter.unusedVariables false
theorem srt_exists (o : List Int) : ∃ s, Srt o s := by
  have hp := List.mergeSort_perm (List.range o.length) (fun a b => !ahd o b a)
  have hs := List.pairwise_mergeSort (le := fun a b => !ahd o b a) (fun a b c h1 h2 => by
    simp only [ahd, Bool.not_eq_true', decide_eq_false_iff_not] at *
    omega) (fun a b => by
    simp only [ahd, Bool.or_eq_true, Bool.not_eq_true', decide_eq_false_iff_not]
    omega) (List.range o.length)
  have hn : ((List.range o.length).mergeSort (fun a b => !ahd o b a)).Nodup := hp.nodup_iff.2 List.nodup_range
  refine ⟨_, hp, ?_⟩
  refine (hs.and hn).imp (fun {a b} h => ?_)
  obtain ⟨h1, h2⟩ := h
  simp only [ahd, Bool.not_eq_true', decide_eq_false_iff_not, decide_eq_true_eq] at *
  have : a ≠ b := h2
  omega
theorem sum_place (e r : Int) : ∀ m : Nat, ((List.range m).map (fun (p : Nat) => e + (if (p : Int) < r then 1 else 0))).sum = (m : Int) * e + (if r ≤ 0 then 0 else if (m : Int) ≤ r then (m : Int) else r)
  | 0 => by simp; omega
  | m + 1 => by
    rw [List.range_succ, List.map_append, List.sum_append, sum_place e r m]
    simp only [List.map_cons, List.map_nil, List.sum_cons, List.sum_nil]
    have : ((m + 1 : Nat) : Int) * e = (m : Int) * e + e := by rw [Int.natCast_add, Int.add_mul]; simp
    rw [this]
    generalize (m : Int) * e = M
    repeat' split
    all_goals omega
theorem perm_sum {a b : List Int} (h : a.Perm b) : a.sum = b.sum := by
  induction h with
  | nil => rfl
  | cons x _ ih => simp only [List.sum_cons]; omega
  | swap x y l => simp only [List.sum_cons]; omega
  | trans _ _ i1 i2 => exact i1.trans i2
theorem tgs_sum (o : List Int) (h0 : 0 < o.length) : (tgs o o.length).sum = o.sum := by
  obtain ⟨s, hs⟩ := srt_exists o
  unfold tgs
  have e1 : ((List.range o.length).map (tgt o)).sum = (s.map (tgt o)).sum := perm_sum (hs.perm.symm.map (tgt o))
  rw [e1]
  have e2 : s.map (tgt o) = (List.range o.length).map (fun (p : Nat) => o.sum / (o.length : Int) + (if (p : Int) < o.sum % (o.length : Int) then 1 else 0)) := by
    apply List.ext_getElem?
    intro p
    rw [List.getElem?_map, List.getElem?_map]
    by_cases hp : p < o.length
    · obtain ⟨x, hx⟩ : ∃ x, s[p]? = some x := ⟨_, List.getElem?_eq_getElem (by rw [hs.len]; exact hp)⟩
      rw [hx, List.getElem?_range hp]
      simp only [Option.map_some, tgt]
      rw [hs.place hx]
    · rw [List.getElem?_eq_none (by rw [hs.len]; omega), List.getElem?_eq_none (by simp; omega)]
      rfl
  rw [e2, sum_place]
  have hl : (0 : Int) < (o.length : Int) := by omega
  have m1 := Int.emod_nonneg o.sum (by omega : (o.length : Int) ≠ 0)
  have m2 := Int.emod_lt_of_pos o.sum hl
  have m3 := Int.mul_ediv_add_emod o.sum (o.length : Int)
  split
  · omega
  · rw [if_neg (by omega)]
    exact m3
theorem Gst.unique {l : List Int} {r r' : Int} (h : Gst l r) (h' : Gst l r') : r = r' := by
  rcases h with ⟨e, h1⟩ | ⟨k, x, e, h1, h2, h3⟩
  · rcases h' with ⟨e', _⟩ | ⟨k', x', _, g1, g2, _⟩
    · omega
    · have := h1 k' x' g1; omega
  · rcases h' with ⟨_, g1⟩ | ⟨k', x', e', g1, g2, g3⟩
    · have := g1 k x h1; omega
    · have a1 := h3 k' x' g1
      have a2 := g3 k x h1
      have := a1.2 (by omega)
      have := a2.2 (by omega)
      omega
/-- the sum of what is above 0 -/
def sp : List Int → Int
  | [] => 0
  | x :: r => (if 0 < x then x else 0) + sp r
theorem sp_nonneg : ∀ v : List Int, 0 ≤ sp v
  | [] => by simp [sp]
  | x :: r => by have := sp_nonneg r; simp only [sp]; split <;> omega
theorem sp_ge : ∀ {v : List Int} {k : Nat} {x : Int}, v[k]? = some x → 0 < x → x ≤ sp v
  | y :: r, 0, x, h, hx => by
    simp only [List.getElem?_cons_zero, Option.some.injEq] at h
    subst h
    have := sp_nonneg r
    simp only [sp]
    rw [if_pos hx]
    omega
  | y :: r, k + 1, x, h, hx => by
    rw [List.getElem?_cons_succ] at h
    have := sp_ge h hx
    simp only [sp]
    split <;> omega
theorem sp_set : ∀ {v : List Int} {k : Nat} {x d : Int}, v[k]? = some x → 0 < x → d ≤ x → sp (v.set k (x - d)) = sp v - d
  | y :: r, 0, x, d, h, hx, hd => by
    simp only [List.getElem?_cons_zero, Option.some.injEq] at h
    subst h
    simp only [List.set_cons_zero, sp]
    rw [if_pos hx]
    split <;> omega
  | y :: r, k + 1, x, d, h, hx, hd => by
    rw [List.getElem?_cons_succ] at h
    have := sp_set h hx hd
    simp only [List.set_cons_succ, sp]
    omega
theorem sp_none : ∀ {v : List Int}, (∀ (j : Nat) y, v[j]? = some y → y ≤ 0) → sp v = 0
  | [], _ => rfl
  | x :: r, h => by
    have h0 := h 0 x (by simp)
    have h1 := sp_none (v := r) (fun j y hy => h (j + 1) y (by rw [List.getElem?_cons_succ]; exact hy))
    simp only [sp]
    rw [if_neg (by omega), h1]
    rfl
theorem sp_neg : ∀ v : List Int, sp v - sp (v.map (fun x => -x)) = v.sum
  | [] => by simp [sp]
  | x :: r => by
    have := sp_neg r
    simp only [List.map_cons, sp, List.sum_cons]
    split <;> split <;> omega
theorem gst_some {v : List Int} {x : Int} {k : Nat} (h : v[k]? = some x) (hx : 0 < x) {r : Int} (hr : Gst v r) : ∃ (g : Nat) (y : Int), r = (g : Int) ∧ v[g]? = some y ∧ 0 < y := by
  rcases hr with ⟨_, h1⟩ | ⟨g, y, e, h1, h2, _⟩
  · have := h1 k x h; omega
  · exact ⟨g, y, e, h1, h2⟩
end Go.Proofs.YtbifmcadllilhaaGreat.Pn
namespace Go.Proofs.YtbifmcadllilhaaGreat.Rg
set_option linter.unusedVariables false
/-- a queue holds those that are above 0 -/
structure Wq (l : List Wt) (v : List Int) : Prop where
  mem : ∀ X, X ∈ l ↔ ∃ k : Nat, X.h = (k : Int) ∧ v[k]? = some X.p ∧ 0 < X.p
  nd : (l.map (·.h)).Nodup
theorem we_mem {l : List Wt} (h : 0 < l.length) : we l 0 ∈ l := List.mem_of_getElem? (we_get h)
theorem Wq.best {l : List Wt} {v : List Int} (h : Wq l v) (hok : Hok l l.length) (h0 : 0 < l.length) : ∃ k : Nat, (we l 0).h = (k : Int) ∧ v[k]? = some (we l 0).p ∧ 0 < (we l 0).p ∧ Pn.Gst v (k : Int) := by
  obtain ⟨k, e1, e2, e3⟩ := (h.mem _).1 (we_mem h0)
  refine ⟨k, e1, e2, e3, .inr ⟨k, _, rfl, e2, e3, fun j y hy => ?_⟩⟩
  by_cases hy0 : 0 < y
  · obtain ⟨i, hi⟩ := List.getElem?_of_mem ((h.mem ⟨(j : Int), y⟩).2 ⟨j, rfl, hy, hy0⟩)
    have hil := (List.getElem?_eq_some_iff.1 hi).1
    have e : we l i = ⟨(j : Int), y⟩ := by
      have := we_get hil
      rw [hi] at this
      exact (Option.some.inj this).symm
    have hr := hok.root i hil
    rw [e] at hr
    unfold wlt at hr
    simp only at hr
    omega
  · omega
theorem Wq.none {v : List Int} (h : Wq [] v) : Pn.Gst v (-1) := .inl ⟨rfl, fun j y hy => by
  by_cases e : 0 < y
  · have := (h.mem ⟨(j : Int), y⟩).2 ⟨j, rfl, hy, e⟩
    cases this
  · omega⟩
theorem Wq.perm {l l' : List Wt} {v : List Int} (h : Wq l v) (hp : l'.Perm l) : Wq l' v := ⟨fun X => by rw [hp.mem_iff]; exact h.mem X, (hp.map _).nodup_iff.2 h.nd⟩
theorem Wq.lessen {l : List Wt} {v : List Int} (h : Wq l v) (h0 : 0 < l.length) {k : Nat} (hk : (we l 0).h = (k : Int)) {x : Int} (hx : v[k]? = some x) {d : Int} (hd : d ≤ x) (hxp : (we l 0).p = x) : Wq (lsn l d) (v.set k (x - d)) := by
  cases l with
  | nil => cases h0
  | cons r t =>
    have er : we (r :: t) 0 = r := rfl
    rw [er] at hk hxp
    have hnd := h.nd
    rw [List.map_cons, List.nodup_cons] at hnd
    have hkl : k < v.length := (List.getElem?_eq_some_iff.1 hx).1
    have memt : ∀ X, X ∈ t ↔ ∃ j : Nat, j ≠ k ∧ X.h = (j : Int) ∧ v[j]? = some X.p ∧ 0 < X.p := fun X => by
      constructor
      · intro hX
        obtain ⟨j, e1, e2, e3⟩ := (h.mem X).1 (List.mem_cons_of_mem _ hX)
        refine ⟨j, fun e => ?_, e1, e2, e3⟩
        apply hnd.1
        rw [hk, ← e, ← e1]
        exact List.mem_map_of_mem hX
      · rintro ⟨j, e0, e1, e2, e3⟩
        rcases List.mem_cons.1 ((h.mem X).2 ⟨j, e1, e2, e3⟩) with e | e
        · exfalso
          rw [e] at e1
          omega
        · exact e
    unfold lsn
    rw [er, hk, hxp]
    split
    · refine ⟨fun X => ?_, ?_⟩
      · rw [List.set_cons_zero, List.mem_cons, memt]
        constructor
        · rintro (e | ⟨j, e0, e1, e2, e3⟩)
          · rw [e]
            exact ⟨k, rfl, by rw [List.getElem?_set_self hkl], by assumption⟩
          · exact ⟨j, e1, by rw [List.getElem?_set_ne (Ne.symm e0)]; exact e2, e3⟩
        · rintro ⟨j, e1, e2, e3⟩
          by_cases e : j = k
          · left
            rw [e, List.getElem?_set_self hkl] at e2
            cases X
            simp only [Option.some.injEq] at e2
            simp only at e1
            rw [e1, ← e2, e]
          · right
            rw [List.getElem?_set_ne (Ne.symm e)] at e2
            exact ⟨j, e, e1, e2, e3⟩
      · rw [List.set_cons_zero, List.map_cons, List.nodup_cons]
        refine ⟨?_, hnd.2⟩
        have := hnd.1
        rw [hk] at this
        exact this
    · refine ⟨fun X => ?_, hnd.2⟩
      rw [List.drop_succ_cons, List.drop_zero, memt]
      constructor
      · rintro ⟨j, e0, e1, e2, e3⟩
        exact ⟨j, e1, by rw [List.getElem?_set_ne (Ne.symm e0)]; exact e2, e3⟩
      · rintro ⟨j, e1, e2, e3⟩
        by_cases e : j = k
        · exfalso
          rw [e, List.getElem?_set_self hkl] at e2
          simp only [Option.some.injEq] at e2
          omega
        · rw [List.getElem?_set_ne (Ne.symm e)] at e2
          exact ⟨j, e, e1, e2, e3⟩
theorem Wq.push {l l' : List Wt} {v : List Int} {i : Nat} {x : Int} (h : Wq l (v.take i)) (hx : v[i]? = some x) (h0 : 0 < x) (hp : l'.Perm (l ++ [⟨(i : Int), x⟩])) : Wq l' (v.take (i + 1)) := by
  refine Wq.perm ⟨fun X => ?_, ?_⟩ hp
  · rw [List.mem_append, List.mem_singleton, h.mem]
    constructor
    · rintro (⟨k, e1, e2, e3⟩ | e)
      · have hk : k < i := by
          rcases Nat.lt_or_ge k i with q | q
          · exact q
          · rw [List.getElem?_take, if_neg (by omega)] at e2; cases e2
        rw [List.getElem?_take, if_pos hk] at e2
        exact ⟨k, e1, by rw [List.getElem?_take, if_pos (by omega)]; exact e2, e3⟩
      · rw [e]; exact ⟨i, rfl, by rw [List.getElem?_take, if_pos (by omega)]; exact hx, h0⟩
    · rintro ⟨k, e1, e2, e3⟩
      by_cases hk : k < i
      · rw [List.getElem?_take, if_pos (by omega)] at e2
        exact .inl ⟨k, e1, by rw [List.getElem?_take, if_pos hk]; exact e2, e3⟩
      · right
        have hk2 : k = i := by
          rcases Nat.lt_or_ge k (i + 1) with q | q
          · omega
          · rw [List.getElem?_take, if_neg (by omega)] at e2; cases e2
        rw [hk2, List.getElem?_take, if_pos (by omega), hx] at e2
        cases X
        simp only [Option.some.injEq] at e2
        simp only at e1
        rw [e1, ← e2, hk2]
  · rw [List.map_append, List.nodup_append]
    refine ⟨h.nd, by simp, fun a ha b hb => ?_⟩
    simp only [List.map_cons, List.map_nil, List.mem_singleton] at hb
    obtain ⟨X, hX, rfl⟩ := List.mem_map.1 ha
    obtain ⟨k, e1, e2, e3⟩ := (h.mem X).1 hX
    have hk : k < i := by
      rcases Nat.lt_or_ge k i with q | q
      · exact q
      · rw [List.getElem?_take, if_neg (by omega)] at e2; cases e2
    omega
theorem Wq.skip {l : List Wt} {v : List Int} {i : Nat} {x : Int} (h : Wq l (v.take i)) (hx : v[i]? = some x) (h0 : x ≤ 0) : Wq l (v.take (i + 1)) := by
  refine ⟨fun X => ?_, h.nd⟩
  rw [h.mem]
  constructor
  · rintro ⟨k, e1, e2, e3⟩
    have hk : k < i := by
      rcases Nat.lt_or_ge k i with q | q
      · exact q
      · rw [List.getElem?_take, if_neg (by omega)] at e2; cases e2
    rw [List.getElem?_take, if_pos hk] at e2
    exact ⟨k, e1, by rw [List.getElem?_take, if_pos (by omega)]; exact e2, e3⟩
  · rintro ⟨k, e1, e2, e3⟩
    have hk2 : k < i + 1 := by
      rcases Nat.lt_or_ge k (i + 1) with q | q
      · exact q
      · rw [List.getElem?_take, if_neg (by omega)] at e2; cases e2
    rw [List.getElem?_take, if_pos hk2] at e2
    have hk : k < i := by
      rcases Nat.lt_or_ge k i with q | q
      · exact q
      · have : k = i := by omega
        rw [this, hx] at e2
        simp only [Option.some.injEq] at e2
        omega
    exact ⟨k, e1, by rw [List.getElem?_take, if_pos hk]; exact e2, e3⟩
end Go.Proofs.YtbifmcadllilhaaGreat.Rg
