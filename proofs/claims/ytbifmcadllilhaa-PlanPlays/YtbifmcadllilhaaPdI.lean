import Derived.Test.YtbifmcadllilhaaPdE
namespace Go.Proofs.Ytbifmcadllilhaa.Rg
open Go.RowKit Go.Shelf Go.Sort
open Go.Proofs.Ytbifmcadllilhaa.It
attribute [local go_sem] Oper.semAt_some
set_option linter.unusedVariables false
/-- the keys that a segment's end lets through -/
def wth (ks : List Int) (hi : Int) : Nat := (ks.takeWhile (fun k => decide (k ≤ hi))).length
theorem wth_le (ks : List Int) (hi : Int) : wth ks hi ≤ ks.length := by
  unfold wth
  exact (List.takeWhile_sublist _).length_le
theorem Ris.tail {x : Int} {o : List Int} (h : Ris (x :: o)) : Ris o := fun i a b ha hb => h (i + 1) a b (by simpa using ha) (by simpa using hb)
theorem Ris.drop {o : List Int} (h : Ris o) (n : Nat) : Ris (o.drop n) := fun i a b ha hb => h (n + i) a b (by simpa [List.getElem?_drop] using ha) (by rw [List.getElem?_drop] at hb; rw [Nat.add_assoc]; exact hb)
theorem count_wth : ∀ (o : List Int) (hi : Int), Ris o → (List.range o.length).countP (fun i => !(((o[i]?).map fun k => decide (k > hi)).getD true)) = wth o hi
  | [], hi, h => rfl
  | x :: o, hi, h => by
    have ih := count_wth o hi h.tail
    rw [List.length_cons, List.range_succ_eq_map, List.countP_cons, List.countP_map]
    have e : ((fun i => !((((x :: o)[i]?).map fun k => decide (k > hi)).getD true)) ∘ Nat.succ) = (fun i => !(((o[i]?).map fun k => decide (k > hi)).getD true)) := by
      funext i
      simp
    rw [e, ih]
    unfold wth
    by_cases hx : x ≤ hi
    · have h1 : decide (x ≤ hi) = true := by simpa using hx
      rw [List.takeWhile_cons, if_pos h1]
      simp
      omega
    · have h1 : ¬ decide (x ≤ hi) = true := by simpa using hx
      rw [List.takeWhile_cons, if_neg h1]
      have h2 : o.takeWhile (fun k => decide (k ≤ hi)) = [] := by
        cases o with
        | nil => rfl
        | cons y o =>
          have := h 0 x y rfl rfl
          rw [List.takeWhile_cons, if_neg (by simp; omega)]
      rw [h2]
      simp
      omega
theorem gt_mono {o : List Int} (h : Ris o) {hi : Int} {a c : Nat} (hac : a ≤ c) (hc : c < o.length) (ha : (((o[a]?).map fun k => decide (k > hi)).getD true) = true) : (((o[c]?).map fun k => decide (k > hi)).getD true) = true := by
  have e1 : o[a]? = some o[a] := List.getElem?_eq_getElem (by omega)
  have e2 : o[c]? = some o[c] := List.getElem?_eq_getElem hc
  have := h.le hac e1 e2
  simp only [e1, e2, Option.map_some, Option.getD_some, decide_eq_true_eq] at ha ⊢
  omega
set_option maxRecDepth 100000 in
set_option maxHeartbeats 1000000 in
theorem layOut71 (w : World) (kb sb : Nat) (u : Value) (o : List Int) (s : Sg) (hu : Us w u o) (hk : w.heap[kb]? = some (.cells #[u] 45 (0, 0))) (hs : w.heap[sb]? = some (.cells #[.int .u64 s.lo, .int .u64 s.hi, .int .u8 s.h] 82 (0, 0))) (i : Nat) (hi : i < o.length) (hN : o.length ≤ 140737488351232) :
    Calls Try.prog 71 #[.int .i64 (i : Int), .pointer (some ⟨kb, 0, none⟩), .pointer (some ⟨sb, 0, none⟩)] w fun e w' => e = .returned (.bool (((o[i]?).map fun k => decide (k > s.hi)).getD true)) ∧ w' = w.drew := by
  have mixed : Try.prog.follows .mixedOrders = true := by kernel_rfl
  obtain ⟨x, hx⟩ : ∃ x, o[i]? = some x := ⟨_, List.getElem?_eq_getElem hi⟩
  obtain ⟨a, cap, rfl, _, _⟩ := id hu
  obtain ⟨b, rfl, k1⟩ := hu.at_ hx
  rw [hx]
  simp only [Option.map_some, Option.getD_some]
  have k2 := cell1 hk
  obtain ⟨k3, k4, k5⟩ := cell3 hs
  have hiI : (i : Int) < (o.length : Int) := by omega
  have hi0 : (0 : Int) ≤ (i : Int) := by omega
  have eti : (i : Int).toNat = i := by omega
  generalize o.length = N at *
  clear hu hx hk hs
  go_enter Try.func71, Try.ntmps71
  go_wp2_with fail
  go_region
  go_wp2
  go_ret
  exact ⟨rfl, rfl⟩
theorem search70 (W : World) (kb sb : Nat) (u : Value) (o : List Int) (s : Sg) (hr : Ris o) (hu : Us W u o) (hk : W.heap[kb]? = some (.cells #[u] 45 (0, 0))) (hs : W.heap[sb]? = some (.cells #[.int .u64 s.lo, .int .u64 s.hi, .int .u8 s.h] 82 (0, 0))) (hN : o.length ≤ 140737488351232) :
    Calls Try.prog 70 #[.int .i64 (o.length : Int), .func (.func 71) #[] #[.pointer (some ⟨kb, 0, none⟩), .pointer (some ⟨sb, 0, none⟩)]] W fun e w' => e = .returned (.int .i64 (wth o s.hi : Int)) ∧ Kp Nu W w' := by
  have SE := Any.sort_Search Try.search 71 #[.pointer (some ⟨kb, 0, none⟩), .pointer (some ⟨sb, 0, none⟩)] o.length (fun i => ((o[i]?).map fun k => decide (k > s.hi)).getD true) W (enters_of Try.func71 (by kernel_rfl) rfl) (by omega)
    (fun m os i hi => by
      have kk := kp_grow W m os
      refine (layOut71 _ kb sb u o s (hu.nu kk) ((kk.block _ (blk_lt hk) (fun h => h)).trans hk) ((kk.block _ (blk_lt hs) (fun h => h)).trans hs) i hi hN).mono ?_
      rintro e w' ⟨rfl, rfl⟩
      exact ⟨rfl, 1, #[], by rw [grow_empty]; rfl⟩)
    (fun a c hac hc ha => gt_mono hr hac hc ha)
  rw [count_wth o s.hi hr] at SE
  change Calls Try.prog 70 _ _ _ at SE
  refine SE.mono ?_
  rintro e w' ⟨rfl, q, os, rfl⟩
  exact ⟨rfl, kp_grow _ _ _⟩
/-- how many keys each segment has, and what is left -/
def dl : List Sg → List Int → List Nat
  | [], _ => []
  | s :: r, ks => wth ks s.hi :: dl r (ks.drop (wth ks s.hi))
def rst : List Sg → List Int → List Int
  | [], ks => ks
  | s :: r, ks => rst r (ks.drop (wth ks s.hi))
theorem rst_snoc : ∀ (p : List Sg) (x : Sg) (ks : List Int), rst (p ++ [x]) ks = (rst p ks).drop (wth (rst p ks) x.hi)
  | [], x, ks => rfl
  | s :: r, x, ks => rst_snoc r x _
theorem dl_snoc : ∀ (p : List Sg) (x : Sg) (ks : List Int), dl (p ++ [x]) ks = dl p ks ++ [wth (rst p ks) x.hi]
  | [], x, ks => rfl
  | s :: r, x, ks => by simp only [List.cons_append, dl, rst, dl_snoc r x]
theorem rst_ris : ∀ (p : List Sg) {ks : List Int}, Ris ks → Ris (rst p ks)
  | [], ks, h => h
  | s :: r, ks, h => rst_ris r (h.drop _)
theorem rst_len : ∀ (p : List Sg) (ks : List Int), (rst p ks).length ≤ ks.length
  | [], ks => Nat.le_refl _
  | s :: r, ks => Nat.le_trans (rst_len r _) (by rw [List.length_drop]; omega)
end Go.Proofs.Ytbifmcadllilhaa.Rg
namespace Go.Proofs.Ytbifmcadllilhaa.Rg
open Go.RowKit Go.Shelf Go.Sort
open Go.Proofs.Ytbifmcadllilhaa.It
set_option linter.unusedVariables false
theorem take_wth : ∀ (ks : List Int) (hi : Int), ∀ k ∈ ks.take (wth ks hi), k ≤ hi
  | [], hi, k, hk => by simp at hk
  | x :: o, hi, k, hk => by
    unfold wth at hk
    rw [List.takeWhile_cons] at hk
    split at hk
    · rename_i h1
      rw [List.length_cons, List.take_succ_cons] at hk
      rcases List.mem_cons.1 hk with rfl | h
      · simpa using h1
      · exact take_wth o hi k h
    · simp at hk
theorem drop_wth : ∀ (ks : List Int) (hi : Int), Ris ks → ∀ k ∈ ks.drop (wth ks hi), hi < k
  | [], hi, h, k, hk => by simp at hk
  | x :: o, hi, h, k, hk => by
    unfold wth at hk
    rw [List.takeWhile_cons] at hk
    split at hk
    · rw [List.length_cons, List.drop_succ_cons] at hk
      exact drop_wth o hi h.tail k hk
    · rename_i h1
      simp only [List.length_nil, List.drop_zero] at hk
      obtain ⟨j, hj⟩ := List.getElem?_of_mem hk
      have h2 := h.le (i := 0) (j := j) (Nat.zero_le _) rfl hj
      simp at h1
      omega
/-- the keys of the segments of a host -/
def sm : List Sg → List Nat → Nat → Int
  | s :: r, m :: ms, h => (if s.h = (h : Int) then (m : Int) else 0) + sm r ms h
  | _, _, _ => 0
theorem cnt_append (a b : List Int) (h : Nat) : Pn.cnt (a ++ b) h = Pn.cnt a h + Pn.cnt b h := by
  unfold Pn.cnt
  rw [List.filter_append, List.length_append]
  omega
theorem cnt_all (a : List Int) (x : Int) (h : Nat) (ha : ∀ y ∈ a, y = x) : Pn.cnt a h = if x = (h : Int) then (a.length : Int) else 0 := by
  unfold Pn.cnt
  by_cases e : x = (h : Int)
  · rw [if_pos e, List.filter_eq_self.2 (fun y hy => by rw [ha y hy]; simpa using e)]
  · rw [if_neg e, List.filter_eq_nil_iff.2 (fun y hy => by rw [ha y hy]; simpa using e)]
    rfl
theorem sm_dl : ∀ {L : List Sg} {a b : Int} {ks : List Int}, Cov a L b → Ris ks → (∀ k ∈ ks, a ≤ k ∧ k < b) → ∀ h, sm L (dl L ks) h = Pn.cnt (ks.map (ow L)) h
  | [], a, b, ks, hc, hr, hk, h => by
    have e : a = b := hc
    cases ks with
    | nil => rfl
    | cons x o => have := hk x (by simp); omega
  | s :: r, a, b, ks, hc, hr, hk, h => by
    have e1 : ks = ks.take (wth ks s.hi) ++ ks.drop (wth ks s.hi) := (List.take_append_drop _ _).symm
    have ih := sm_dl (ks := ks.drop (wth ks s.hi)) hc.2.2 (hr.drop _) (fun k hk' => ⟨by have := drop_wth ks s.hi hr k hk'; omega, (hk k (List.mem_of_mem_drop hk')).2⟩) h
    have e2 : (ks.drop (wth ks s.hi)).map (ow (s :: r)) = (ks.drop (wth ks s.hi)).map (ow r) := List.map_congr_left (fun k hk' => by
      have := drop_wth ks s.hi hr k hk'
      simp only [ow]
      rw [if_neg (by omega)])
    have e3 := cnt_all ((ks.take (wth ks s.hi)).map (ow (s :: r))) s.h h (fun y hy => by
      obtain ⟨k, hk', rfl⟩ := List.mem_map.1 hy
      simp only [ow]
      rw [if_pos (take_wth ks s.hi k hk')])
    rw [List.length_map, List.length_take, Nat.min_eq_left (wth_le ks s.hi)] at e3
    show (if s.h = (h : Int) then (wth ks s.hi : Int) else 0) + sm r (dl r (ks.drop (wth ks s.hi))) h = _
    rw [ih, ← e3, ← e2, ← cnt_append, ← List.map_append, ← e1]
theorem sm_snoc : ∀ (L : List Sg) (ms : List Nat) (s : Sg) (m h : Nat), L.length = ms.length → sm (L ++ [s]) (ms ++ [m]) h = sm L ms h + (if s.h = (h : Int) then (m : Int) else 0)
  | [], [], s, m, h, _ => by simp [sm]
  | x :: L, y :: ms, s, m, h, e => by
    have ih := sm_snoc L ms s m h (by simpa using e)
    simp only [List.cons_append, sm, ih]
    omega
end Go.Proofs.Ytbifmcadllilhaa.Rg
namespace Go.Proofs.Ytbifmcadllilhaa.Rg
open Go.RowKit Go.Shelf Go.Sort
open Go.Proofs.Ytbifmcadllilhaa.It
attribute [local go_sem] Oper.semAt_some
set_option linter.unusedVariables false
/-- a stretch -/
structure St where
  sg : Sg
  a : Option Addr
  n : Nat
  c : Nat
def cellsS (s : St) : List Value := [.int .u64 s.sg.lo, .int .u64 s.sg.hi, .int .u8 s.sg.h, .slice s.a s.n s.c]
def cellsT (l : List St) : List Value := l.flatMap cellsS
theorem cellsT_snoc (l : List St) (s : St) : cellsT (l ++ [s]) = cellsT l ++ cellsS s := by simp [cellsT]
theorem cellsT_at : ∀ (l : List St) (k : Nat) (x : St), l[k]? = some x → ∀ j, j < 4 → (cellsT l)[k * 4 + j]? = (cellsS x)[j]?
  | [], k, x, h, j, _ => by simp at h
  | a :: l, 0, x, h, j, hj => by
    simp at h; subst h
    simp only [cellsT, List.flatMap_cons, Nat.zero_mul, Nat.zero_add]
    rw [List.getElem?_append_left (by simp [cellsS]; omega)]
  | a :: l, k + 1, x, h, j, hj => by
    have ih := cellsT_at l k x (by simpa using h) j hj
    simp only [cellsT, List.flatMap_cons]
    rw [List.getElem?_append_right (by simp [cellsS]; omega)]
    have : (k + 1) * 4 + j - (cellsS a).length = k * 4 + j := by simp [cellsS]; omega
    rw [this]; exact ih
theorem row4_at {w : World} {B : Nat} {v : Value} {l : List St} (h : w.ownsRow B 129 4 v l.length (cellsT l)) {i : Nat} {s : St} (hi : l[i]? = some s) : ∃ r cap, v = .slice (some ⟨r, 0, none⟩) l.length cap ∧ w.cell? ⟨r, i * 4, none⟩ = some (.int .u64 s.sg.lo) ∧ w.cell? ⟨r, i * 4 + 1, none⟩ = some (.int .u64 s.sg.hi) ∧ w.cell? ⟨r, i * 4 + 2, none⟩ = some (.int .u8 s.sg.h) ∧ w.cell? ⟨r, i * 4 + 3, none⟩ = some (.slice s.a s.n s.c) := by
  have hlt : i < l.length := (List.getElem?_eq_some_iff.1 hi).1
  rcases h.2 with ⟨_, h0⟩ | ⟨r, cap, cur, e, hB, hg, h1, h2, h3, h4⟩
  · omega
  · have key : ∀ j, j < 4 → cur[i * 4 + j]? = (cellsS s)[j]? := by
      intro j hj
      have e1 := cellsT_at l i s hi j hj
      rw [← h4, List.getElem?_take_of_lt (by omega)] at e1
      simpa using e1
    refine ⟨r, cap, e, ?_, ?_, ?_, ?_⟩
    · have := key 0 (by omega)
      simpa [World.cell?, hg, cellsS] using this
    · have := key 1 (by omega)
      simpa [World.cell?, hg, cellsS] using this
    · have := key 2 (by omega)
      simpa [World.cell?, hg, cellsS] using this
    · have := key 3 (by omega)
      simpa [World.cell?, hg, cellsS] using this
/-- the loads of stretches -/
def sl (l : List St) (h : Nat) : Int := sm (l.map (·.sg)) (l.map (·.n)) h
theorem sl_snoc (l : List St) (s : St) (h : Nat) : sl (l ++ [s]) h = sl l h + (if s.sg.h = (h : Int) then (s.n : Int) else 0) := by
  unfold sl
  rw [List.map_append, List.map_append]
  exact sm_snoc _ _ _ _ _ (by simp)
theorem sl_bound : ∀ (l : List St) (h : Nat), (∀ s ∈ l, s.n ≤ 17592186044416) → 0 ≤ sl l h ∧ sl l h ≤ (l.length : Int) * 17592186044416
  | [], h, _ => by simp [sl, sm]
  | s :: l, h, hb => by
    have ih := sl_bound l h (fun x hx => hb x (by simp [hx]))
    have h1 := hb s (by simp)
    have e : sl (s :: l) h = (if s.sg.h = (h : Int) then (s.n : Int) else 0) + sl l h := rfl
    rw [e, List.length_cons]
    split <;> omega
set_option maxRecDepth 100000 in
set_option maxHeartbeats 2000000 in
theorem loadsOf43 (w : World) (B n : Nat) (v : Value) (l : List St) (ho : w.ownsRow B 129 4 v l.length (cellsT l)) (h1 : n ≤ 16) (hh : ∀ s ∈ l, 0 ≤ s.sg.h ∧ s.sg.h < (n : Int)) (hl : l.length ≤ 8192) (hb : ∀ s ∈ l, s.n ≤ 17592186044416) :
    Calls Try.prog 43 #[.int .i64 (n : Int), v] w fun e w' => ∃ g, e = .returned (.slice (some ⟨g, 0, none⟩) n n) ∧ w'.ownsRow w.heap.size 3 1 (.slice (some ⟨g, 0, none⟩) n n) n ((List.range n).map (fun q => Value.int .i64 (sl l q))) ∧ Kp Nu w w' := by
  have mixed : Try.prog.follows .mixedOrders = true := by kernel_rfl
  obtain ⟨va, vc, rfl⟩ := own_slice ho
  obtain ⟨N, eN⟩ : ∃ N, l.length = N := ⟨_, rfl⟩
  have HU := hide (And.intro ho (And.intro eN (And.intro hh hb)))
  rw [eN] at hl ⊢
  have hNI : (N : Int) ≤ 8192 := by omega
  have hnI : (n : Int) ≤ 16 := by omega
  clear ho eN hh hb hl
  obtain ⟨z0, hzi, hz0, hz1, hz2⟩ := info_parts Pn.info3z
  go_enter Try.func43, Try.ntmps43
  go_wp2_with (at_make; refine wpList_make_full _ rfl _ _ 22 rfl w.heap.size 3 z0 _ 1 Try.underlying22 hzi hz0 hz1 _ _ _ _ n rfl rfl rfl rfl (by rw [hz2]; omega) (by unfold maxLen; omega) (Nat.le_refl _) ?_; intro w4 hrow4 hgr4)
  have H4 := hide (And.intro (Pn.hq_zero hrow4) ((Kp.of_grown hgr4).mono (T := Nu) (fun _ _ e => by cases e)))
  clear hrow4 hgr4
  go_wp2
  go_loopw [12] (fun iv wr => ∃ i : Nat, iv = .int .i64 (i : Int) ∧ i ≤ N ∧ Hid (Pn.Hq wr w.heap.size n (fun q => q < n) (sl (l.take i)) ∧ Kp Nu w wr)) (fun iv _ => N - (intOf iv).toNat)
  case atStart => exact ⟨0, rfl, Nat.zero_le _, hide ⟨H4.out.1.ext (fun q _ => by simp [sl, sm]), H4.out.2⟩⟩
  case round =>
    obtain ⟨i, rfl, hi, hI⟩ := hrel
    have hi0 : (0 : Int) ≤ (i : Int) := by omega
    by_cases hlt : i < N
    · have hltI : (i : Int) < (N : Int) := by omega
      obtain ⟨s, hs⟩ : ∃ s, l[i]? = some s := ⟨_, List.getElem?_eq_getElem (by rw [HU.out.2.1]; exact hlt)⟩
      obtain ⟨r, cap, e, x0, x1, x2, x3⟩ := row4_at HU.out.1 hs
      simp only [Value.slice.injEq] at e
      obtain ⟨rfl, e1, e2⟩ := e
      replace x0 := cell_nu x0 hI.out.2
      replace x1 := cell_nu x1 hI.out.2
      replace x2 := cell_nu x2 hI.out.2
      replace x3 := cell_nu x3 hI.out.2
      have eti : (i : Int).toNat = i := by omega
      have hsm := List.mem_of_getElem? hs
      have hsh := HU.out.2.2.1 s hsm
      have hsn := HU.out.2.2.2 s hsm
      have htk : l.take (i + 1) = l.take i ++ [s] := by rw [List.take_add_one, hs]; rfl
      obtain ⟨q, hq⟩ : ∃ q : Nat, s.sg.h = (q : Int) := ⟨s.sg.h.toNat, by omega⟩
      have hqn : q < n := by omega
      have hqI : (q : Int) < (n : Int) := by omega
      have hq0 : (0 : Int) ≤ (q : Int) := by omega
      have etq : (q : Int).toNat = q := by omega
      rw [hq] at x2
      obtain ⟨sa, sn, sc, e3⟩ : ∃ sa sn sc, Value.slice s.a s.n s.c = .slice sa sn sc ∧ s.n = sn := ⟨_, _, _, rfl, rfl⟩
      rw [e3.1] at x3
      obtain ⟨c, hc⟩ : ∃ c, sl (l.take i) q = c := ⟨_, rfl⟩
      have kA := Kp.alloc wr (.cells #[.int .u64 s.sg.lo, .int .u64 s.sg.hi, .int .u8 (q : Int), .slice sa sn sc] 129) Nu
      have hqA := hI.out.1.nu kA.toPn
      have y1 := hqA.at_ hqn
      rw [hc] at y1
      have hf := hqA.free q
      have hbd := sl_bound (l.take i) q (fun x hx => HU.out.2.2.2 x (List.mem_of_mem_take hx))
      rw [hc, List.length_take] at hbd
      have ew : IntKind.i64.wrap (c + (sn : Int)) = c + (sn : Int) := by have := e3.2; rw [IntKind.wrap_i64]; omega
      have HX := hide (And.intro hs (And.intro htk (And.intro hq (And.intro hc (And.intro e3.2 (And.intro hqA (hI.out.2.andNu kA)))))))
      clear hs htk hq hc e3 hsm hsh hsn e1 e2 hbd hqA kA
      go_wp2_with fail
      go_region
      go_wp2
      refine ⟨⟨i + 1, by go_num, by omega, hide ⟨?_, (HX.out.2.2.2.2.2.2.andSet _ _ (.inl (Nat.le_refl _))).drew⟩⟩, by simp [intOf]; omega⟩
      have e1 : c + (sn : Int) = sl (l.take (i + 1)) q := by rw [HX.out.2.1, sl_snoc, HX.out.2.2.2.1, if_pos HX.out.2.2.1, HX.out.2.2.2.2.1]
      rw [e1]
      refine (HX.out.2.2.2.2.2.1.set (f' := sl (l.take (i + 1))) hqn (fun p hp => .inr hp) (fun p hp _ => ?_)).nu (Pn.kp_drawn _)
      rw [HX.out.2.1, sl_snoc, if_neg (by have := HX.out.2.2.1; omega), Int.add_zero]
    · have hge : ¬ (i : Int) < (N : Int) := by omega
      obtain rfl : N = i := by omega
      go_wp2
      go_ret
      refine ⟨_, rfl, hI.out.1.own (fun q hq => hq) (Nat.le_refl _) h1 _ ?_, hI.out.2⟩
      rw [← HU.out.2.1, List.take_length]
end Go.Proofs.Ytbifmcadllilhaa.Rg
