import Derived.Test.YtbifmcadllilhaaGreatQtK
import Derived.Deep.RegionHeld3
namespace Go.Proofs.YtbifmcadllilhaaGreat.Rg
open Go.RowKit Go.Shelf Go.Sort
set_option linter.unusedVariables false
theorem unhidL {p : Prop} (h : Hid p) : p := h.out
theorem zero_row8 (N : Nat) : (madeCells (Value.int .u8 0).cells (N * 1)).toList = ucs8 (List.replicate N 0) := by
  unfold ucs8
  rw [List.map_replicate]
  simp only [madeCells, Value.cells]
  simp [Nat.mod_one, List.map_const']
theorem made_at {w : World} {B g n e : Nat} {xs : List Value} (h : w.ownsRow B e 1 (.slice (some ⟨g, 0, none⟩) n n) n xs) : w.heap[g]? = some (.cells xs.toArray e (0, 0)) := by
  rcases h.2 with ⟨e0, _⟩ | ⟨g', cap', cur, e0, hb, hg, h1, h2, h3, h4⟩
  · cases e0
  · cases e0
    rw [← h4, List.take_of_length_le (by simp [h3]), Array.toArray_toList]
    exact hg
theorem made_own {w : World} {B g n e : Nat} {xs : List Value} (hB : B ≤ g) (hn : n ≤ maxLen) (hx : xs.length = n) (h : w.heap[g]? = some (.cells xs.toArray e (0, 0))) : w.ownsRow B e 1 (.slice (some ⟨g, 0, none⟩) n n) n xs :=
  ⟨by omega, .inr ⟨g, n, xs.toArray, rfl, hB, h, Nat.le_refl _, hn, by simp; omega, by rw [Nat.mul_one, ← hx]; simp⟩⟩
open Go.RowKit in
theorem wpList_copy_keep {P : Program} {w : World} {ops : Array Oper} {rest : List Oper} {o : Oper} {a : Act} {Q : Exit → Act → World → Prop} (hgd : o.guard = none) (d s : Operand) (dT sT : TypeId)
    (ho : o.op = .call { callee := .builtin .copy, args := #[d, s], argTypes := #[dT, sT] }) (elem : TypeId) (hu : P.underlying dT = some (.slice elem)) (hsz : (P.info? elem).map (·.size) = some 1)
    (g off dLen dCap : Nat) (ad : Addr) (sLen sCap : Nat) (hd : a.eval d = .slice (some ⟨g, off, none⟩) dLen dCap) (hs : a.eval s = .slice (some ad) sLen sCap)
    (cur : List Value) (t : TypeId) (hg : w.heap[g]? = some (.cells cur.toArray t (0, 0))) (cs : List Value) (hn : cs.length = Nat.min sLen dLen)
    (hsrc : ∀ j v, cs[j]? = some v → w.cell? (ad.add j) = some v) (hfit : off + cs.length ≤ cur.length) (h1 : ∀ v ∈ cs, v.oneCell' = true)
    (h : ∀ w', Hid (w'.heap[g]? = some (.cells (splice cur off cs).toArray t (0, 0))) → Kp (fun k => k = g) w w' → wpList P ops Q rest (a.put o.dst (goInt cs.length)) w') :
    wpList P ops Q (o :: rest) a w := by
  refine wpList_copy_own hgd d s dT sT ho elem hu hsz g off dLen dCap ad sLen sCap hd hs cur.toArray t hg cs hn hsrc (by simpa using hfit) h1 ?_
  exact h _ (hide (by simpa [splice] using setRow_heap w g _ _ t _ hg)) ⟨rfl, rfl, rfl, by simp [World.setRow], fun k hk hne => setRow_other w g k _ hne⟩
theorem info57s : (Tryz.prog.info? 36).map (·.size) = some 1 := by kernel_rfl
/-- the row behind the copy -/
def tr0 (n k : Nat) (H : List Int) : List Int := List.replicate k 0 ++ (H ++ List.replicate (n - k - H.length) 0)
theorem splice8 {n k : Nat} {H : List Int} (h : k + H.length ≤ n) : splice (ucs8 (List.replicate n 0)) k (ucs8 H) = ucs8 (tr0 n k H) := by
  unfold splice tr0 ucs8
  rw [List.length_map, ← List.map_take, ← List.map_drop, ← List.map_append, ← List.map_append, List.take_replicate, List.drop_replicate, Nat.min_eq_left (by omega), Nat.sub_sub]
theorem tr0_len {n k : Nat} {H : List Int} (h : k + H.length ≤ n) : (tr0 n k H).length = n := by
  unfold tr0
  simp
  omega
theorem gt_replicate (n i : Nat) : gt (List.replicate n 0) i = 0 := by
  unfold gt
  rw [List.getD_eq_getElem?_getD, List.getElem?_replicate]
  split <;> rfl
theorem tr0_gt {n k : Nat} {H : List Int} (h : k + H.length ≤ n) (q : Nat) : gt (tr0 n k H) (k + q) = gt H q := by
  unfold tr0 gt
  rw [List.getD_eq_getElem?_getD, List.getD_eq_getElem?_getD, List.getElem?_append_right (by simp), List.length_replicate, Nat.add_sub_cancel_left]
  by_cases c : q < H.length
  · rw [List.getElem?_append_left c]
  · rw [List.getElem?_append_right (by omega), List.getElem?_replicate, List.getElem?_eq_none (l := H) (by omega)]
    split <;> rfl
theorem info57z : (Tryz.prog.info? 36).map (fun i => (i.zero, i.size, i.bytes)) = some (some (.int .u8 0), 1, 1) := by kernel_rfl
set_option maxRecDepth 100000 in
set_option maxHeartbeats 2000000 in
theorem owners61 (w : World) (B hg P hc : Nat) (H : List Int) (hH : w.ownsRow B 36 1 (.slice (some ⟨hg, 0, none⟩) P hc) P (ucs8 H)) (hl : H.length = P) (h0 : 0 < P) (hP : P ≤ 20000) (hv : ∀ k, gt H k ≠ 255) :
    Calls Tryz.prog 57 #[.slice (some ⟨hg, 0, none⟩) P hc] w fun e w' => ∃ pb, e = .returned (.pointer (some ⟨pb, 0, none⟩)) ∧ ∃ g c D t, OwT w' w.heap.size pb g c D (fun q => gt H q) t ∧ P ≤ 2 ^ D ∧ 2 ^ D ≤ 2 * P ∧ Kp Nu w w' := by
  have mixed : Tryz.prog.follows .mixedOrders = true := by kernel_rfl
  obtain ⟨z0, hzi, hz0, hz1, hz2⟩ := info_parts info57z
  have hP0 : (0 : Int) ≤ (P : Int) := by omega
  have hP1 : (P : Int) ≤ 20000 := by omega
  have HH := hide (And.intro hH (And.intro hl hv))
  clear hH hl hv
  go_enter Tryz.func57, Tryz.ntmps57
  go_wp2
  go_loopw [3] (fun wv wr => ∃ k : Nat, wv = .int .i64 (k : Int) ∧ 1 ≤ k ∧ k ≤ 40000 ∧ Hid (∃ e, k = 2 ^ e ∧ (k = 1 ∨ k < 2 * P)) ∧ wr = w) (fun wv _ => P - (intOf wv).toNat)
  case atStart => exact ⟨1, rfl, by omega, by omega, hide ⟨0, by simp, .inl rfl⟩, rfl⟩
  case round =>
    obtain ⟨k, rfl, hk1, hk2, hI, rfl⟩ := hrel
    have hk0 : (0 : Int) ≤ (k : Int) := by omega
    have hk3 : (k : Int) ≤ 40000 := by omega
    by_cases hlt : k < P
    · have hltI : (k : Int) < (P : Int) := by omega
      go_wp2
      refine ⟨⟨2 * k, by go_num, by omega, by omega, hide ?_, by first | trivial | rfl⟩, by simp [intOf]; omega⟩
      obtain ⟨e, he, _⟩ := hI.out
      exact ⟨e + 1, by rw [Nat.pow_succ, ← he]; omega, .inr (by omega)⟩
    · have hltI : ¬ (k : Int) < (P : Int) := by omega
      obtain ⟨n, hn⟩ : ∃ n, n = 2 * k := ⟨_, rfl⟩
      have e1 : IntKind.i64.wrap (2 * (k : Int)) = (n : Int) := by rw [IntKind.wrap_i64]; omega
      have e2 : 2 * (k : Int) = (n : Int) := by omega
      have hnn : n ≤ 80000 := by omega
      have HN := hide hn
      clear hn
      go_wp2_with (at_make; refine wpList_make_full _ rfl _ _ 112 rfl wr.heap.size 36 z0 _ 1 Tryz.underlying112 hzi hz0 hz1 _ _ _ _ n rfl rfl rfl rfl (by rw [hz2]; omega) (by unfold maxLen; omega) (Nat.le_refl _) ?_; intro w4 hrow4 hgr4; refine unhidL ?_)
      refine hide ?_
      rw [zero_row8] at hrow4
      have k4 : Kp Nu wr w4 := (Kp.of_grown hgr4).mono (fun _ _ e => by cases e)
      have g4 := made_at hrow4
      obtain ⟨w5, hw5⟩ : ∃ w5, w4.alloc (.cells #[.int .i64 (k : Int), .slice (some ⟨wr.heap.size, 0, none⟩) n n] 138) = w5 := ⟨_, rfl⟩
      have k45 : Kp Nu w4 w5 := by rw [← hw5]; exact Kp.alloc _ _ _
      have b5 : w5.heap[w4.heap.size]? = some (.cells #[.int .i64 (k : Int), .slice (some ⟨wr.heap.size, 0, none⟩) n n] 138 (0, 0)) := by rw [← hw5]; exact heap_alloc_new w4 _
      have g5 := box2 g4 k45
      have c50 : w5.cell? ⟨w4.heap.size, 0, none⟩ = some (.int .i64 (k : Int)) := by simp [World.cell?, b5]
      have c51 : w5.cell? ⟨w4.heap.size, 1, none⟩ = some (.slice (some ⟨wr.heap.size, 0, none⟩) n n) := by simp [World.cell?, b5]
      have hkn : k < n := by have := HN.out; omega
      have hg4 : wr.heap.size < w4.heap.size := blk_lt g4
      have f1 : ¬ n = k := by omega
      have f2 : (k : Int) ≤ (n : Int) := by omega
      have f3 : (k : Int).toNat = k := by omega
      obtain ⟨hH, hl, hvv⟩ := HH.out
      obtain ⟨cs, hcs⟩ : ∃ cs, cs = ucs8 H := ⟨_, rfl⟩
      obtain ⟨cur, hcur⟩ : ∃ cur, cur = ucs8 (List.replicate n 0) := ⟨_, rfl⟩
      rw [← hcur] at g5
      have csl : cs.length = P := by rw [hcs, ucs8_len]; exact hl
      have curl : cur.length = n := by rw [hcur, ucs8_len]; simp
      have hpos : ∀ j v, cs[j]? = some v → w5.cell? ((⟨hg, 0, none⟩ : Addr).add j) = some v := fun j v hj => by
        have hown := own_keep hH (fun g e => (k4.andNu k45).block g (own_lt hH e) (fun h => h))
        rw [hcs] at hj
        rw [show P = (ucs8 H).length by rw [ucs8_len, hl]] at hown
        obtain ⟨r, cap, e2, _, h1, _⟩ := row1_at hown hj
        simp only [Value.slice.injEq, Option.some.injEq, Addr.mk.injEq, and_true] at e2
        obtain ⟨rfl, _⟩ := e2
        rw [Addr.add_lit, Nat.zero_add]
        exact h1
      have one : ∀ v ∈ cs, v.oneCell' = true := fun v hv => by
        rw [hcs] at hv
        obtain ⟨x, _, rfl⟩ := List.mem_map.1 hv
        rfl
      have bel : Below wr.heap.size wr w5 := (k4.andNu k45).toBelow
      have hmin : cs.length = Nat.min P (n - k) := by rw [csl]; exact (Nat.min_eq_left (by have := HN.out; omega)).symm
      have HC := hide (And.intro hpos (And.intro one (And.intro bel (And.intro hmin (And.intro csl curl)))))
      have HQ := hide (And.intro hcs (And.intro hcur (And.intro b5 (And.intro k4 k45))))
      have HG5 := hide g5
      clear hrow4 hgr4 k4 g4 k45 b5 g5 hH hl hvv hcs hcur csl curl hpos one bel hmin
      have hfit : Hid (k + cs.length ≤ cur.length) := hide (by rw [HC.out.2.2.2.2.1, HC.out.2.2.2.2.2]; have := HN.out; omega)
      go_wp2_with (first
        | (guard_target =~ wpList _ _ _ ({ dst := _, op := Op.call { callee := Callee.builtin Builtin.copy, args := _, argTypes := _ }, type := _, pos := _, after := _, guard := _ } :: _) _ _; refine wpList_copy_keep rfl _ _ 112 112 rfl 36 Tryz.underlying112 info57s wr.heap.size k (n - k) (n - k) ⟨hg, 0, none⟩ P hc rfl rfl cur 36 HG5.out cs HC.out.2.2.2.1 HC.out.1 hfit.out HC.out.2.1 ?_; intro w6 HG6 hK6; refine unhidL ?_))
      refine hide ?_
      obtain ⟨hcs, hcur, b5, k4, k45⟩ := HQ.out
      obtain ⟨hH, hl, hvv⟩ := HH.out
      obtain ⟨D, hD, hD2⟩ := hI.out
      have hfit' : k + H.length ≤ n := by rw [hl]; have := HN.out; omega
      have g6 := HG6.out
      rw [hcs, hcur, splice8 hfit'] at g6
      have b6 : w6.heap[w4.heap.size]? = some (.cells #[.int .i64 (k : Int), .slice (some ⟨wr.heap.size, 0, none⟩) n n] 138 (0, 0)) := blk_kp b5 hK6 (by omega)
      have T6 : Tr w6 wr.heap.size w4.heap.size wr.heap.size n n k (tr0 n k H) :=
        ⟨made_own (Nat.le_refl _) (by unfold maxLen; omega) (by rw [ucs8_len]; exact tr0_len hfit') g6, tr0_len hfit', by omega, by simp [World.cell?, b6], by simp [World.cell?, b6]⟩
      have hleaf : ∀ j, k ≤ j → gt (tr0 n k H) j ≠ 255 := fun j hj => by
        rw [show j = k + (j - k) by omega, tr0_gt hfit']; exact hvv _
      have G6 := Gth.start (D := D) (t := tr0 n k H) (fun j hj => hleaf j (by omega))
      rw [← hD] at G6
      have K6 : Kp Nu wr w6 := (k4.andNu k45).trans hK6 (fun i hi e => by omega)
      obtain ⟨t0, ht0⟩ : ∃ t0, t0 = tr0 n k H := ⟨_, rfl⟩
      rw [← ht0] at T6 G6
      have HT6 := hide (And.intro T6 (And.intro G6 (And.intro K6 (And.intro ht0 (And.intro hD (And.intro hD2 (And.intro hvv (And.intro hl hfit'))))))))
      have e3 : IntKind.i64.wrap ((k : Int) - 1) = (k : Int) - 1 := by rw [IntKind.wrap_i64]; omega
      clear HG6 hK6 hcs hcur b5 k4 k45 hH hl hvv hD hD2 hfit' g6 b6 T6 hleaf G6 K6 HG5 HC HQ hfit c50 c51 hw5 ht0
      obtain ⟨pb, hpb⟩ : ∃ pb, w4.heap.size = pb := ⟨_, rfl⟩
      rw [hpb] at HT6 ⊢
      clear hpb hg4
      generalize hwl : wr = wl at *
      have HWL := hide hwl
      clear hwl
      go_wp2
      go_loopw [5] (fun iv wx => ∃ i : Nat, iv = .int .i64 (i : Int) ∧ i < k ∧ Hid (∃ t', Tr wx wl.heap.size pb wl.heap.size n n k t' ∧ Gth D t' i ∧ (∀ j, k ≤ j → gt t' j = gt (tr0 n k H) j) ∧ Kp Nu wl wx)) (fun iv _ => (intOf iv).toNat)
      case atStart =>
        obtain ⟨T6, G6, K6, ht0, _⟩ := HT6.out
        exact ⟨k - 1, by go_num, by omega, hide ⟨t0, T6, G6, fun j _ => by rw [ht0], K6⟩⟩
      case round =>
        obtain ⟨i, rfl, hik, hJ⟩ := hrel
        obtain ⟨t', h1, h2, h3, h4⟩ := hJ.out
        have hi0 : (0 : Int) ≤ (i : Int) := by omega
        have hi9 : (i : Int) ≤ 40000 := by omega
        by_cases hip : 0 < i
        · have hipI : (0 : Int) < (i : Int) := by omega
          have hipG : (i : Int) > 0 := by omega
          have GA := gather88 wr wl.heap.size pb wl.heap.size n n k t' i h1 hip (by have := HN.out; omega) (by omega)
          have HJ := hide (And.intro h2 (And.intro h3 h4))
          clear hJ h1 h2 h3 h4
          go_wp2_with fail
          refine GA.mono ?_; rintro e w8 ⟨rfl, t2, q1, q2, q3, q4⟩
          have HQ := hide (And.intro q1 (And.intro q2 (And.intro q3 q4)))
          clear GA q1 q2 q3 q4
          go_wp2
          obtain ⟨q1, q2, q3, q4⟩ := HQ.out
          obtain ⟨h2, h3, h4⟩ := HJ.out
          obtain ⟨_, _, _, _, hD, _⟩ := HT6.out
          exact ⟨⟨i - 1, by go_num, by omega, hide ⟨t2, q1, h2.step hip (by rw [← hD]; exact hik) q2 q3, fun j hj => by rw [q2 j (by omega)]; exact h3 j hj, h4.trans q4 (fun x hx e => by omega)⟩⟩, by simp [intOf]; omega⟩
        · have hipI : ¬ (0 : Int) < (i : Int) := by omega
          have hipG : ¬ (i : Int) > 0 := by omega
          have HJ := hide (And.intro h1 (And.intro h2 (And.intro h3 h4)))
          clear hJ h1 h2 h3 h4
          go_wp2
          go_ret
          obtain ⟨h1, h2, h3, h4⟩ := HJ.out
          obtain ⟨_, _, _, _, hD, hD2, hvv, hl, hfit'⟩ := HT6.out
          obtain rfl : i = 0 := by omega
          obtain ⟨r1, r2⟩ := h2 D 1 (by omega) (nd_root D)
          have hn := HN.out
          refine ⟨pb, rfl, ?_⟩
          rw [HWL.out]
          refine ⟨wl.heap.size, n, D, ⟨t', ⟨by rw [← hD, ← hn]; exact h1, r1, fun q hq => ?_⟩⟩, by omega, by omega, h4⟩
          rw [r2 q hq, Nat.one_mul, h3 _ (by omega), ← hD]
          exact tr0_gt hfit' q
end Go.Proofs.YtbifmcadllilhaaGreat.Rg
namespace Go.Proofs.YtbifmcadllilhaaGreat.Rg
open Go.RowKit Go.Shelf Go.Sort
set_option linter.unusedVariables false
abbrev movV (m : Mv) : Value := .agg #[.int .u8 m.f, .int .u8 m.t, .int .u64 m.lo, .int .u64 m.hi, .int .i64 m.n]
/-- what playing a move answers -/
def PlB (w' : World) (Bo pb g c D : Nat) (o : Nat → Int) (m : Mv) (a b : Nat) (bo : Bool) : Prop :=
  (bo = true ∧ (∀ j, a ≤ j → j ≤ b → o j = m.f) ∧ ∃ t', OwT w' Bo pb g c D (fun j => if a ≤ j ∧ j ≤ b then m.t else o j) t') ∨ (bo = false ∧ ¬ ∀ j, a ≤ j → j ≤ b → o j = m.f)
set_option maxRecDepth 100000 in
set_option maxHeartbeats 600000 in
theorem play36 (w : World) (B fb sg ns cs pb Bo g c D : Nat) (S : List Int) (o : Nat → Int) (t : List Int) (hF : Fd w B fb sg ns cs pb S) (hO : OwT w Bo pb g c D o t) (hS : Sts S) (hn : ns ≤ 2 ^ D) (hD : 2 * 2 ^ D ≤ 1000000) (m : Mv) (hm : Mok m) (hb : MvB m) (a b : Nat) (ha : Inp S a m.lo) (hbp : Inp S b m.hi) (hab : a ≤ b) :
    Calls Tryz.prog 34 #[.pointer (some ⟨fb, 0, none⟩), movV m] w fun e w' => ∃ bo : Bool, e = .returned (.bool bo) ∧ PlB w' Bo pb g c D o m a b bo ∧ Kp (fun k => k = g) w w' := by
  have mixed : Tryz.prog.follows .mixedOrders = true := by kernel_rfl
  have hp := Nat.two_pow_pos D
  obtain ⟨w1, hw1⟩ : ∃ w1, w.alloc (.cells #[.int .u8 m.f, .int .u8 m.t, .int .u64 m.lo, .int .u64 m.hi, .int .i64 m.n] 41) = w1 := ⟨_, rfl⟩
  have kA : Kp Nu w w1 := by rw [← hw1]; exact Kp.alloc _ _ _
  have bA : w1.heap[w.heap.size]? = some (.cells #[.int .u8 m.f, .int .u8 m.t, .int .u64 m.lo, .int .u64 m.hi, .int .i64 m.n] 41 (0, 0)) := by rw [← hw1]; exact heap_alloc_new w _
  obtain ⟨y0, y1, y2, y3, y4⟩ := cell5 bA
  obtain ⟨mf, mt, lo, hi, mn⟩ := m
  simp only at *
  obtain ⟨ix, i1, i2⟩ : ∃ ix : Int → Nat, ix lo = a ∧ ix hi = b := by
    by_cases e : lo = hi
    · have : a = b := hS.one ha (by rw [e]; exact hbp)
      exact ⟨fun _ => a, rfl, this⟩
    · exact ⟨fun k => if k = lo then a else b, if_pos rfl, if_neg (fun h => e h.symm)⟩
  have PT : ∀ W K, Hid (K = lo ∨ K = hi) → Kp Nu w1 W → Calls Tryz.prog 58 #[.pointer (some ⟨fb, 0, none⟩), .int .u64 K] W fun e w' => e = .returned (.int .i64 (ix K : Int)) ∧ Kp Nu w1 w' := fun W K hK k => by
    rcases hK.out with rfl | rfl
    · rw [i1]; exact (part62 ((hF.nu kA).nu k) hS (by omega) _ a ha).mono (fun e w' h => ⟨h.1, k.andNu h.2⟩)
    · rw [i2]; exact (part62 ((hF.nu kA).nu k) hS (by omega) _ b hbp).mono (fun e w' h => ⟨h.1, k.andNu h.2⟩)
  have HS : ∀ W, Kp Nu w1 W → W.cell? ⟨w.heap.size, 2, none⟩ = some (.int .u64 lo) ∧ W.cell? ⟨w.heap.size, 3, none⟩ = some (.int .u64 hi) := fun W k => ⟨cell_nu y2 k, cell_nu y3 k⟩
  have hmt : mt ≠ 255 := by have : mt < 16 := hm.2.2.1; omega
  have hbl : b < 2 ^ D := by have := hbp.lt; have := hF.row.len; omega
  have HF := hide (And.intro (hF.nu kA) (And.intro (hO.nu kA) (And.intro bA kA)))
  have hgw : g < w.heap.size := hO.tr.lt
  clear hF hO ha hbp hm hS kA bA hb
  go_enter Tryz.func34, Tryz.ntmps34
  go_wp2_with fail
  go_region_held3 (fun W => W.cell? ⟨w.heap.size, 2, none⟩ = some (.int .u64 lo) ∧ W.cell? ⟨w.heap.size, 3, none⟩ = some (.int .u64 hi)) (first | (refine HS _ ?_; repeat (first | assumption | exact Kp.refl _ _ | apply Kp.drew))) (first | (go_at_call 58; refine (PT _ _ ?_ ?_).mono ?_; (first | exact hide (.inl rfl) | exact hide (.inr rfl)); (repeat (first | assumption | exact Kp.refl _ _ | apply Kp.drew)); rintro e w3 ⟨rfl, hk3⟩))
  obtain ⟨F1, O1, bA, kA⟩ := HF.out
  have F3 := F1.nu hk3
  have O3 := O1.nu hk3
  have b3 := box2 bA hk3
  obtain ⟨z0, z1, z2, z3, z4⟩ := cell5 b3
  have c1 := F3.c1
  have HF3 := hide (And.intro F3 (And.intro O3 (And.intro b3 (kA.andNu hk3))))
  have AA : ∀ W, Kp Nu w3 W → Calls Tryz.prog 59 #[.pointer (some ⟨pb, 0, none⟩), .int .i64 (a : Int), .int .i64 (b : Int), .int .u8 mf] W fun e w' => Pn.Ans (∀ j, a ≤ j → j ≤ b → o j = mf) e ∧ Kp Nu w3 w' := fun W k => (areAll63 W Bo pb g c D o t (O3.nu k) hD a b hab hbl mf).mono (fun e w' h => ⟨h.1, k.andNu h.2⟩)
  have HS : ∀ W, Kp Nu w3 W → W.cell? ⟨fb, 1, none⟩ = some (.pointer (some ⟨pb, 0, none⟩)) ∧ W.cell? ⟨w.heap.size, 0, none⟩ = some (.int .u8 mf) := fun W k => ⟨cell_nu c1 k, cell_nu z0 k⟩
  clear y0 y1 y2 y3 y4 PT F1 O1 bA kA F3 O3 b3 i1 i2 HF hw1
  clear hk3
  clear ix
  go_wp2_with fail
  go_region_held3 (fun W => W.cell? ⟨fb, 1, none⟩ = some (.pointer (some ⟨pb, 0, none⟩)) ∧ W.cell? ⟨w.heap.size, 0, none⟩ = some (.int .u8 mf)) (first | (refine HS _ ?_; repeat (first | assumption | exact Kp.refl _ _ | apply Kp.drew))) (first | (go_at_call 59; refine (AA _ ?_).mono ?_; (repeat (first | assumption | exact Kp.refl _ _ | apply Kp.drew)); rintro e w4 ⟨⟨bo, rfl, hbo⟩, hk4⟩))
  obtain ⟨F3, O3, b3, k3⟩ := HF3.out
  have O4 := O3.nu hk4
  have b4 := box2 b3 hk4
  have F4 := F3.nu hk4
  have HF4 := hide (And.intro O4 (k3.andNu hk4))
  have HB := hide hbo
  clear z0 z1 z2 z3 z4 c1
  obtain ⟨z0, z1, z2, z3, z4⟩ := cell5 b4
  have c1 := F4.c1
  cases bo with
  | false =>
    clear AA HS F3 O3 b3 k3 O4 b4 F4 hbo hk4 HF3
    go_wp2
    go_ret
    exact ⟨false, rfl, .inr ⟨rfl, fun h => by have := HB.out.2 h; cases this⟩, HF4.out.2.mono (fun _ _ e => e.elim)⟩
  | true =>
    have GG : ∀ W, Kp Nu w4 W → Calls Tryz.prog 60 #[.pointer (some ⟨pb, 0, none⟩), .int .i64 (a : Int), .int .i64 (b : Int), .int .u8 mt] W fun e w' => e = .returned (.tuple #[]) ∧ (∃ t', OwT w' Bo pb g c D (fun j => if a ≤ j ∧ j ≤ b then mt else o j) t') ∧ Kp (fun k => k = g) w4 w' := fun W k => (give64 W Bo pb g c D o t (O4.nu k) hD a b mt hmt).mono (fun e w' h => by
      obtain ⟨h1, t', h2, h3⟩ := h
      exact ⟨h1, ⟨t', h2⟩, (k.mono (fun _ _ e => e.elim)).trans h3 (fun _ _ e => e)⟩)
    have HS4 : ∀ W, Kp Nu w4 W → W.cell? ⟨fb, 1, none⟩ = some (.pointer (some ⟨pb, 0, none⟩)) ∧ W.cell? ⟨w.heap.size, 1, none⟩ = some (.int .u8 mt) := fun W k => ⟨cell_nu c1 k, cell_nu z1 k⟩
    have hfg : fb ≠ g := fun e => by
      obtain ⟨cur, h⟩ := own_obj O4.tr.own (g := g) rfl
      have := F4.blk
      rw [e, h] at this
      cases this
    have HS5 : ∀ W, Kp (fun k => k = g) w4 W → W.cell? ⟨fb, 1, none⟩ = some (.pointer (some ⟨pb, 0, none⟩)) ∧ W.cell? ⟨w.heap.size, 1, none⟩ = some (.int .u8 mt) := fun W k => ⟨by simp [World.cell?, blk_kp F4.blk k hfg], by simp [World.cell?, blk_kp b4 k (by omega)]⟩
    clear AA HS F3 O3 b3 k3 O4 b4 F4 hbo hk4 HF3
    go_wp2_with fail
    go_region_held3 (fun W => W.cell? ⟨fb, 1, none⟩ = some (.pointer (some ⟨pb, 0, none⟩)) ∧ W.cell? ⟨w.heap.size, 1, none⟩ = some (.int .u8 mt)) (first | (refine HS5 _ ?_; assumption; done) | (refine HS4 _ ?_; repeat (first | assumption | exact Kp.refl _ _ | apply Kp.drew))) (first | (go_at_call 60; refine (GG _ ?_).mono ?_; (repeat (first | assumption | exact Kp.refl _ _ | apply Kp.drew)); rintro e w5 ⟨rfl, hT5, hk5⟩))
    go_wp2
    go_ret
    exact ⟨true, rfl, .inl ⟨rfl, HB.out.1 (by first | trivial | rfl), hT5⟩, (HF4.out.2.mono (T := fun k => k = g) (fun _ _ e => e.elim)).trans hk5 (fun _ _ e => e)⟩
end Go.Proofs.YtbifmcadllilhaaGreat.Rg
namespace Go.Proofs.YtbifmcadllilhaaGreat.Rg
open Go.RowKit Go.Shelf Go.Sort
open Go.Proofs.YtbifmcadllilhaaGreat.It
set_option linter.unusedVariables false
set_option maxRecDepth 100000 in
set_option maxHeartbeats 400000 in
theorem segments37 (w : World) (B fb sg ns cs pb Bo g c D : Nat) (S : List Int) (o : Nat → Int) (t : List Int) (hF : Fd w B fb sg ns cs pb S) (hO : OwT w Bo pb g c D o t) (hS : Sts S) (hn : ns ≤ 2 ^ D) (hD : 2 * 2 ^ D ≤ 1000000) (hns : ns ≤ 20000) :
    Calls Tryz.prog 35 #[.pointer (some ⟨fb, 0, none⟩)] w fun e w' => ∃ u, e = .returned u ∧ w'.ownsRow w.heap.size 38 3 u (rk S o ns).length (cells (rk S o ns)) ∧ Kp (fun k => k = g) w w' := by
  have mixed : Tryz.prog.follows .mixedOrders = true := by kernel_rfl
  obtain ⟨i0, hi, hz0, hz1, hz2⟩ := info_parts info82z
  have hl := hF.row.len
  have hn0 : 0 < ns := by have := hS.ne; omega
  have c0 := hF.c0
  have c1 := hF.c1
  have LL : ∀ W, Kp Nu w W → Calls Tryz.prog 61 #[.pointer (some ⟨pb, 0, none⟩), .int .i64 (ns : Int)] W fun e w' => e = .returned (.slice (some ⟨g, 2 ^ D, none⟩) ns (c - 2 ^ D)) ∧ Hid (∃ t', Tr w' Bo pb g (2 * 2 ^ D) c (2 ^ D) t' ∧ ∀ q, q < ns → gt t' (2 ^ D + q) = o q) ∧ Kp (fun k => k = g) w w' := fun W k => (list65 W Bo pb g c D ns o t (hO.nu k) hD hn0 hn).mono (fun e w' h => by
    obtain ⟨h1, t', h2, h3, h4⟩ := h
    exact ⟨h1, hide ⟨t', h2, h3⟩, (k.mono (fun _ _ e => e.elim)).trans h4 (fun _ _ e => e)⟩)
  have HF := hide (And.intro hF hO)
  have HS : ∀ W, Kp Nu w W → W.cell? ⟨fb, 0, none⟩ = some (.slice (some ⟨sg, 0, none⟩) ns cs) ∧ W.cell? ⟨fb, 1, none⟩ = some (.pointer (some ⟨pb, 0, none⟩)) := fun W k => ⟨cell_nu c0 k, cell_nu c1 k⟩
  have hfg : fb ≠ g := fun e => by
    obtain ⟨cur, h⟩ := own_obj hO.tr.own (g := g) rfl
    have := hF.blk
    rw [e, h] at this
    cases this
  have hsgg : sg ≠ g := fun e => by
    obtain ⟨cur, h⟩ := own_obj hO.tr.own (g := g) rfl
    obtain ⟨cur2, h2⟩ := own_obj hF.row.own (g := sg) rfl
    rw [e, h] at h2
    cases h2
  have HS5 : ∀ W, Kp (fun k => k = g) w W → W.cell? ⟨fb, 0, none⟩ = some (.slice (some ⟨sg, 0, none⟩) ns cs) ∧ W.cell? ⟨fb, 1, none⟩ = some (.pointer (some ⟨pb, 0, none⟩)) := fun W k => by
    have := blk_kp hF.blk k hfg
    exact ⟨by simp [World.cell?, this], by simp [World.cell?, this]⟩
  have hgw : g < w.heap.size := hO.tr.lt
  clear hF hO
  go_enter Tryz.func35, Tryz.ntmps35
  go_wp2_with fail
  go_region_held3 (fun W => W.cell? ⟨fb, 0, none⟩ = some (.slice (some ⟨sg, 0, none⟩) ns cs) ∧ W.cell? ⟨fb, 1, none⟩ = some (.pointer (some ⟨pb, 0, none⟩))) (first | (refine HS5 _ ?_; assumption; done) | (refine HS _ ?_; repeat (first | assumption | exact Kp.refl _ _ | apply Kp.drew))) (first | (go_at_call 61; refine (LL _ ?_).mono ?_; (repeat (first | assumption | exact Kp.refl _ _ | apply Kp.drew)); rintro e w1 ⟨rfl, hT1, hk1⟩))
  have F1 : Fd w1 B fb sg ns cs pb S := ⟨blk_kp HF.out.1.blk hk1 hfg, ⟨own_keep HF.out.1.row.own (fun x e => hk1.block x (own_lt HF.out.1.row.own e) (fun e2 => by simp [Value.ownBlock] at e; omega)), hl⟩⟩
  obtain ⟨t', hT', ho'⟩ := hT1.out
  have H1 := hide (And.intro F1 (And.intro hT' (And.intro ho' hk1)))
  clear F1 hT' ho' hk1 hT1 LL HS HS5 c0 c1 HF
  go_wp2
  go_loopw [3, 18] (fun sv iv wr => ∃ (i ln : Nat) (la : Option Addr) (lc : Nat), iv = .int .i64 (i : Int) ∧ sv = .slice la ln lc ∧ i ≤ ns ∧ ln ≤ i ∧ Hid (∃ R, Rp S o i R ∧ R.length = ln ∧ wr.ownsRow w1.heap.size 38 3 (.slice la ln lc) ln (cells R) ∧ Kp Nu w1 wr)) (fun _ iv _ => ns - (intOf iv).toNat)
  case atStart => exact ⟨0, 0, none, 0, rfl, rfl, Nat.zero_le _, Nat.zero_le _, hide ⟨[], .inl ⟨rfl, rfl⟩, rfl, World.ownsRow_nil _ _ _ _, Kp.refl _ _⟩⟩
  case round =>
    obtain ⟨i, ln, la, lc, rfl, rfl, hi1, hi2, hI⟩ := hrel
    have hi0 : (0 : Int) ≤ (i : Int) := by omega
    by_cases hlt : i < ns
    · have hltI : (i : Int) < (ns : Int) := by omega
      obtain ⟨F1, hT', ho', hk1⟩ := H1.out
      obtain ⟨R, h1, h2, h3, h4⟩ := hI.out
      obtain ⟨x1, _⟩ := (hT'.nu h4).at_ (k := 2 ^ D + i) (by omega)
      rw [ho' i hlt] at x1
      have c0 := (F1.nu h4).c0
      obtain ⟨s1, _⟩ := (F1.nu h4).row.at_ (k := i) hlt
      have hfb1 : fb < w1.heap.size := blk_lt F1.blk
      have hsg1 : sg < w1.heap.size := own_lt F1.row.own rfl
      have eti : (i : Int).toNat = i := by omega
      have hw1s := h4.size
      by_cases hz : ln = 0
      · have hi00 : Hid (i = 0) := hide (by
          rcases h1 with ⟨e, _⟩ | ⟨_, A, lo, h, e, _⟩
          · exact e
          · rw [e] at h2; simp at h2; omega)
        subst hz
        have HR0 : Hid (R = []) := hide (List.eq_nil_of_length_eq_zero h2)
        have HI := hide (And.intro h3 h4)
        clear hI h1 h2 h3 h4 F1 hT' ho' hk1
        go_wp2_with (at_builtin; refine unhid ?_)
        refine wpList_append_own_at _ rfl _ _ 22 rfl w1.heap.size 38 i0 (.agg #[.int .u64 0, .int .u64 0, .int .u8 0]) 3 24 Tryz.underlying22 hi hz0 hz1 hz2 rfl (by decide) (.slice la 0 lc) 0 (cells []) rfl (by have q := HI.out.1; rw [HR0.out] at q; exact q.alloc _) ⟨wr.heap.size, 0, none⟩ 1 1 [.int .u64 (gt S i), .int .u64 18446744073709551615, .int .u8 (o i)] rfl rfl (cell_three_new wr _ _ _ _) (by simp [Value.oneCell']) (by unfold maxLen; omega) (by omega) (by rw [World.size_alloc]; exact Nat.le_trans hw1s (Nat.le_succ _)) ?_
        intro v' w4 ho hg hnil hat
        obtain ⟨ad4, cp4, ev⟩ := own_slice ho
        subst ev
        have HO := hide (And.intro ho hg)
        clear ho hg hnil hat
        go_wp2
        obtain ⟨ho, hg⟩ := HO.out
        obtain ⟨h3, h4⟩ := HI.out
        refine ⟨⟨i + 1, 1, ad4, cp4, by go_num, rfl, by omega, by omega, hide ⟨[⟨gt S i, 18446744073709551615, o i⟩], ?_, rfl, ho, (h4.andAlloc _).trans (Kp.of_grown hg) (fun j hj e => ?_)⟩⟩, by simp [intOf]; omega⟩
        · rw [hi00.out]; exact Rp.first
        · have := (h3.lt j e.symm).1
          omega
      · obtain ⟨ip, A, lo, h, eR, eK⟩ : 0 < i ∧ ∃ A lo h, R = A ++ [⟨lo, 18446744073709551615, h⟩] ∧ rk S o i = A ++ [⟨lo, nx S (i - 1) - 1, h⟩] := by
          rcases h1 with ⟨_, e⟩ | h1
          · rw [e] at h2; simp at h2; omega
          · exact h1
        subst eR
        obtain ⟨q, hq⟩ : ∃ q, A.length = q := ⟨_, rfl⟩
        obtain rfl : ln = q + 1 := by rw [← h2, ← hq]; simp
        have hlt2 : (A ++ [(⟨lo, 18446744073709551615, h⟩ : Sg)])[A.length]? = some ⟨lo, 18446744073709551615, h⟩ := by simp
        have h3' : wr.ownsRow w1.heap.size 38 3 (.slice la (q + 1) lc) (A ++ [(⟨lo, 18446744073709551615, h⟩ : Sg)]).length (cells (A ++ [⟨lo, 18446744073709551615, h⟩])) := by rw [h2]; exact h3
        obtain ⟨r3, cap3, hu3, z0, z1, z2⟩ := row_at h3' hlt2
        have h3'' : wr.ownsRow w1.heap.size 38 3 (.slice la (q + 1) lc) (A.length + 1) (cells (A ++ [⟨lo, 18446744073709551615, h⟩])) := by rw [hq]; exact h3
        obtain ⟨r4, cap4, hu4, o1, o2⟩ := own_end h3'' (gt S i - 1)
        have h34 : r4 = r3 := by
          rw [hu3] at hu4
          simp only [Value.slice.injEq, Option.some.injEq, Addr.mk.injEq, and_true] at hu4
          exact hu4.1.symm
        subst h34
        simp only [Value.slice.injEq] at hu3
        obtain ⟨rfl, hX, rfl⟩ := hu3
        clear hX
        simp only at z0 z1 z2
        rw [hq] at z1 z2 o1 o2
        have hr4 : w1.heap.size ≤ r4 := (h3.lt r4 rfl).1
        have hq0 : (0 : Int) ≤ (q : Int) := by omega
        have hq1 : (q : Int) + 1 ≤ 20000 := by omega
        have hqn : (q : Int).toNat = q := by omega
        have f1 : IntKind.i64.wrap (((q + 1 : Nat) : Int) - 1) = (q : Int) := by rw [IntKind.wrap_i64]; omega
        have f2 : (q : Int) ≥ 0 := by omega
        have f3 : (q : Int) < (q : Int) + 1 := by omega
        have s0 := hS.ge (i := i) (by omega)
        have s2 : 0 < gt S i := by have := hS.inc 0 i ip (by omega); rw [hS.zero] at this; exact this
        have s3 := hS.top i (by omega)
        have f4 : IntKind.u64.wrap (gt S i - 1) = gt S i - 1 := by rw [IntKind.wrap_u64]; omega
        have f5 : (gt S i - 1) % 18446744073709551616 = gt S i - 1 := by omega
        by_cases hh : h = o i
        · have heq : (h == o i) = true := by simpa using hh
          have HI := hide (And.intro h3 (And.intro h4 (And.intro h2 (Rp.same ip eK hh))))
          clear hI h1 h2 h3 h4 F1 hT' ho' hk1 eK h3' h3'' hu4 o1 o2 hlt2 hq s0 s2 s3 hh f4 f5 z0 z1 s1 c0 hr4
          go_wp2
          obtain ⟨h3, h4, h2, hR⟩ := HI.out
          exact ⟨⟨i + 1, q + 1, _, _, by go_num, rfl, by omega, by omega, hide ⟨_, hR, h2, h3, h4⟩⟩, by simp [intOf]; omega⟩
        · have heq : (h == o i) = false := by simpa using hh
          have HI := hide (And.intro o1 (And.intro h4 (And.intro hq (Rp.more ip (by omega) eK hh))))
          clear hI h1 h2 h3 h4 F1 hT' ho' hk1 eK h3' h3'' hu4 o1 hlt2 hq s0 s2 s3 hh
          have kS : Kp (fun k => k = r4) wr (wr.setCell ⟨r4, q * 3 + 1, none⟩ (.int .u64 (gt S i - 1))) := Kp.setCell wr ⟨r4, q * 3 + 1, none⟩ _
          have c0' : (wr.setCell ⟨r4, q * 3 + 1, none⟩ (.int .u64 (gt S i - 1))).cell? ⟨fb, 0, none⟩ = some (.slice (some ⟨sg, 0, none⟩) ns cs) := by rw [World.cell?_setCell_other _ _ _ _ (by intro e; simp at e <;> omega)]; exact c0
          have s1' : (wr.setCell ⟨r4, q * 3 + 1, none⟩ (.int .u64 (gt S i - 1))).cell? ⟨sg, i, none⟩ = some (.int .u64 (gt S i)) := by rw [World.cell?_setCell_other _ _ _ _ (by intro e; simp at e <;> omega)]; exact s1
          obtain ⟨wS, hwS⟩ : ∃ wS, wr.setCell ⟨r4, q * 3 + 1, none⟩ (.int .u64 (gt S i - 1)) = wS := ⟨_, rfl⟩
          rw [hwS] at c0' s1' kS HI
          have hsS : w1.heap.size ≤ wS.heap.size := Nat.le_trans hw1s kS.size
          have HK := hide kS
          clear kS
          go_wp2_with (at_builtin; refine unhid ?_)
          refine wpList_append_own_at _ rfl _ _ 22 rfl w1.heap.size 38 i0 (.agg #[.int .u64 0, .int .u64 0, .int .u8 0]) 3 24 Tryz.underlying22 hi hz0 hz1 hz2 rfl (by decide) (.slice (some ⟨r4, 0, none⟩) (q + 1) lc) (q + 1) (cells (A ++ [⟨lo, gt S i - 1, h⟩])) rfl (HI.out.1.alloc _) ⟨wS.heap.size, 0, none⟩ 1 1 [.int .u64 (gt S i), .int .u64 18446744073709551615, .int .u8 (o i)] rfl rfl (cell_three_new wS _ _ _ _) (by simp [Value.oneCell']) (by unfold maxLen; omega) (by omega) (by rw [World.size_alloc]; exact Nat.le_trans hsS (Nat.le_succ _)) ?_
          intro v' w4 ho hg hnil hat
          obtain ⟨ad4, cp4, ev⟩ := own_slice ho
          subst ev
          have HO := hide (And.intro ho hg)
          clear ho hg hnil hat
          go_wp2
          obtain ⟨ho, hg⟩ := HO.out
          obtain ⟨h3, h4, hq, hR⟩ := HI.out
          refine ⟨⟨i + 1, q + 1 + 1, ad4, cp4, by go_num, rfl, by omega, by omega, hide ⟨_, hR, ?_, ?_, ((h4.trans HK.out (fun j hj e => by omega)).andAlloc _).trans (Kp.of_grown hg) (fun j hj e => ?_)⟩⟩, by simp [intOf]; omega⟩
          · simp [hq]
          · rw [cells_append (A ++ [(⟨lo, gt S i - 1, h⟩ : Sg)]) [(⟨gt S i, 18446744073709551615, o i⟩ : Sg)]]; exact ho
          · have := (h3.lt j e.symm).1
            omega
    · have hltI : ¬ (i : Int) < (ns : Int) := by omega
      have HI := hI
      clear hI
      go_wp2
      go_ret
      obtain ⟨R, h1, h2, h3, h4⟩ := HI.out
      obtain ⟨_, _, _, hk1⟩ := H1.out
      obtain rfl : i = ns := by omega
      rw [← hl] at h1
      have e := h1.last hS
      rw [hl] at e
      rw [← e, h2]
      exact ⟨_, rfl, own_base h3 hk1.size, hk1.andNu h4⟩
end Go.Proofs.YtbifmcadllilhaaGreat.Rg
