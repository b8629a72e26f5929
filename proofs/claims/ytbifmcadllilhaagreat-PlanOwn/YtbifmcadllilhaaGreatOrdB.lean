import Derived.Test.YtbifmcadllilhaaGreatPdE
import Derived.Test.YtbifmcadllilhaaGreatRgL
import Derived.OwnWalkIn
namespace Go.Proofs.YtbifmcadllilhaaGreat.Rg
open Go.RowKit Go.Shelf Go.Sort
open Go.Proofs.YtbifmcadllilhaaGreat.It
attribute [local go_sem] Oper.semAt_some
set_option linter.unusedVariables false
/-- the keys that a segment's end lets through -/
def wth (ks : List Int) (hi : Int) : Nat := (ks.takeWhile (fun k => decide (k ≤ hi))).length
theorem wth_le (ks : List Int) (hi : Int) : wth ks hi ≤ ks.length := by
  unfold wth
  exact (List.takeWhile_sublist _).length_le
theorem Ris.tail {x : Int} {o : List Int} (h : Ris (x :: o)) : Ris o := fun i a b ha hb => h (i + 1) a b (by simpa using ha) (by simpa using hb)
theorem Ris.drop {o : List Int} (h : Ris o) (n : Nat) : Ris (o.drop n) := fun i a b ha hb => h (n + i) a b (by simpa [List.getElem?_drop] using ha) (by rw [List.getElem?_drop] at hb; rw [Nat.add_assoc]; exact hb)
theorem count_wth : ∀ (o : List Int) (hi : Int), Ris o → (List.range o.length).countP (fun i => !(((o[i]?).map fun k => decide (k > hi)).getD true)) = wth o hi
  | [], hi, h => rfl
  | x :: o, hi, h => by
    have ih := count_wth o hi h.tail
    rw [List.length_cons, List.range_succ_eq_map, List.countP_cons, List.countP_map]
    have e : ((fun i => !((((x :: o)[i]?).map fun k => decide (k > hi)).getD true)) ∘ Nat.succ) = (fun i => !(((o[i]?).map fun k => decide (k > hi)).getD true)) := by
      funext i
      simp
    rw [e, ih]
    unfold wth
    by_cases hx : x ≤ hi
    · have h1 : decide (x ≤ hi) = true := by simpa using hx
      rw [List.takeWhile_cons, if_pos h1]
      simp
      omega
    · have h1 : ¬ decide (x ≤ hi) = true := by simpa using hx
      rw [List.takeWhile_cons, if_neg h1]
      have h2 : o.takeWhile (fun k => decide (k ≤ hi)) = [] := by
        cases o with
        | nil => rfl
        | cons y o =>
          have := h 0 x y rfl rfl
          rw [List.takeWhile_cons, if_neg (by simp; omega)]
      rw [h2]
      simp
      omega
theorem gt_mono {o : List Int} (h : Ris o) {hi : Int} {a c : Nat} (hac : a ≤ c) (hc : c < o.length) (ha : (((o[a]?).map fun k => decide (k > hi)).getD true) = true) : (((o[c]?).map fun k => decide (k > hi)).getD true) = true := by
  have e1 : o[a]? = some o[a] := List.getElem?_eq_getElem (by omega)
  have e2 : o[c]? = some o[c] := List.getElem?_eq_getElem hc
  have := h.le hac e1 e2
  simp only [e1, e2, Option.map_some, Option.getD_some, decide_eq_true_eq] at ha ⊢
  omega
set_option maxRecDepth 100000 in
set_option maxHeartbeats 1000000 in
theorem layOut71 (w : World) (kb sb : Nat) (u : Value) (o : List Int) (s : Sg) (hu : Us w u o) (hk : w.heap[kb]? = some (.cells #[u] 23 (0, 0))) (hs : w.heap[sb]? = some (.cells #[.int .u64 s.lo, .int .u64 s.hi, .int .u8 s.h] 38 (0, 0))) (i : Nat) (hi : i < o.length) (hN : o.length ≤ 140737488351232) :
    Calls Tryz.prog 46 #[.int .i64 (i : Int), .pointer (some ⟨kb, 0, none⟩), .pointer (some ⟨sb, 0, none⟩)] w fun e w' => e = .returned (.bool (((o[i]?).map fun k => decide (k > s.hi)).getD true)) ∧ w' = w.drew := by
  have mixed : Tryz.prog.follows .mixedOrders = true := by kernel_rfl
  obtain ⟨x, hx⟩ : ∃ x, o[i]? = some x := ⟨_, List.getElem?_eq_getElem hi⟩
  obtain ⟨a, cap, rfl, _, _⟩ := id hu
  obtain ⟨b, rfl, k1⟩ := hu.at_ hx
  rw [hx]
  simp only [Option.map_some, Option.getD_some]
  have k2 := cell1 hk
  obtain ⟨k3, k4, k5⟩ := cell3 hs
  have hiI : (i : Int) < (o.length : Int) := by omega
  have hi0 : (0 : Int) ≤ (i : Int) := by omega
  have eti : (i : Int).toNat = i := by omega
  generalize o.length = N at *
  clear hu hx hk hs
  go_enter Tryz.func46, Tryz.ntmps46
  go_wp2_with fail
  go_region
  go_wp2
  go_ret
  exact ⟨rfl, rfl⟩
theorem search70 (W : World) (kb sb : Nat) (u : Value) (o : List Int) (s : Sg) (hr : Ris o) (hu : Us W u o) (hk : W.heap[kb]? = some (.cells #[u] 23 (0, 0))) (hs : W.heap[sb]? = some (.cells #[.int .u64 s.lo, .int .u64 s.hi, .int .u8 s.h] 38 (0, 0))) (hN : o.length ≤ 140737488351232) :
    Calls Tryz.prog 45 #[.int .i64 (o.length : Int), .func (.func 46) #[] #[.pointer (some ⟨kb, 0, none⟩), .pointer (some ⟨sb, 0, none⟩)]] W fun e w' => e = .returned (.int .i64 (wth o s.hi : Int)) ∧ Kp Nu W w' := by
  have SE := Any.sort_Search Tryz.search 46 #[.pointer (some ⟨kb, 0, none⟩), .pointer (some ⟨sb, 0, none⟩)] o.length (fun i => ((o[i]?).map fun k => decide (k > s.hi)).getD true) W (enters_of Tryz.func46 (by kernel_rfl) rfl) (by omega)
    (fun m os i hi => by
      have kk := kp_grow W m os
      refine (layOut71 _ kb sb u o s (hu.nu kk) ((kk.block _ (blk_lt hk) (fun h => h)).trans hk) ((kk.block _ (blk_lt hs) (fun h => h)).trans hs) i hi hN).mono ?_
      rintro e w' ⟨rfl, rfl⟩
      exact ⟨rfl, 1, #[], by rw [grow_empty]; rfl⟩)
    (fun a c hac hc ha => gt_mono hr hac hc ha)
  rw [count_wth o s.hi hr] at SE
  change Calls Tryz.prog 45 _ _ _ at SE
  refine SE.mono ?_
  rintro e w' ⟨rfl, q, os, rfl⟩
  exact ⟨rfl, kp_grow _ _ _⟩
/-- how many keys each segment has, and what is left -/
def dl : List Sg → List Int → List Nat
  | [], _ => []
  | s :: r, ks => wth ks s.hi :: dl r (ks.drop (wth ks s.hi))
def rst : List Sg → List Int → List Int
  | [], ks => ks
  | s :: r, ks => rst r (ks.drop (wth ks s.hi))
theorem rst_snoc : ∀ (p : List Sg) (x : Sg) (ks : List Int), rst (p ++ [x]) ks = (rst p ks).drop (wth (rst p ks) x.hi)
  | [], x, ks => rfl
  | s :: r, x, ks => rst_snoc r x _
theorem dl_snoc : ∀ (p : List Sg) (x : Sg) (ks : List Int), dl (p ++ [x]) ks = dl p ks ++ [wth (rst p ks) x.hi]
  | [], x, ks => rfl
  | s :: r, x, ks => by simp only [List.cons_append, dl, rst, dl_snoc r x]
theorem rst_ris : ∀ (p : List Sg) {ks : List Int}, Ris ks → Ris (rst p ks)
  | [], ks, h => h
  | s :: r, ks, h => rst_ris r (h.drop _)
theorem rst_len : ∀ (p : List Sg) (ks : List Int), (rst p ks).length ≤ ks.length
  | [], ks => Nat.le_refl _
  | s :: r, ks => Nat.le_trans (rst_len r _) (by rw [List.length_drop]; omega)
end Go.Proofs.YtbifmcadllilhaaGreat.Rg
namespace Go.Proofs.YtbifmcadllilhaaGreat.Rg
open Go.RowKit Go.Shelf Go.Sort
open Go.Proofs.YtbifmcadllilhaaGreat.It
set_option linter.unusedVariables false
theorem take_wth : ∀ (ks : List Int) (hi : Int), ∀ k ∈ ks.take (wth ks hi), k ≤ hi
  | [], hi, k, hk => by simp at hk
  | x :: o, hi, k, hk => by
    unfold wth at hk
    rw [List.takeWhile_cons] at hk
    split at hk
    · rename_i h1
      rw [List.length_cons, List.take_succ_cons] at hk
      rcases List.mem_cons.1 hk with rfl | h
      · simpa using h1
      · exact take_wth o hi k h
    · simp at hk
theorem drop_wth : ∀ (ks : List Int) (hi : Int), Ris ks → ∀ k ∈ ks.drop (wth ks hi), hi < k
  | [], hi, h, k, hk => by simp at hk
  | x :: o, hi, h, k, hk => by
    unfold wth at hk
    rw [List.takeWhile_cons] at hk
    split at hk
    · rw [List.length_cons, List.drop_succ_cons] at hk
      exact drop_wth o hi h.tail k hk
    · rename_i h1
      simp only [List.length_nil, List.drop_zero] at hk
      obtain ⟨j, hj⟩ := List.getElem?_of_mem hk
      have h2 := h.le (i := 0) (j := j) (Nat.zero_le _) rfl hj
      simp at h1
      omega
/-- the keys of the segments of a host -/
def sm : List Sg → List Nat → Nat → Int
  | s :: r, m :: ms, h => (if s.h = (h : Int) then (m : Int) else 0) + sm r ms h
  | _, _, _ => 0
theorem cnt_append (a b : List Int) (h : Nat) : Pn.cnt (a ++ b) h = Pn.cnt a h + Pn.cnt b h := by
  unfold Pn.cnt
  rw [List.filter_append, List.length_append]
  omega
theorem cnt_all (a : List Int) (x : Int) (h : Nat) (ha : ∀ y ∈ a, y = x) : Pn.cnt a h = if x = (h : Int) then (a.length : Int) else 0 := by
  unfold Pn.cnt
  by_cases e : x = (h : Int)
  · rw [if_pos e, List.filter_eq_self.2 (fun y hy => by rw [ha y hy]; simpa using e)]
  · rw [if_neg e, List.filter_eq_nil_iff.2 (fun y hy => by rw [ha y hy]; simpa using e)]
    rfl
theorem sm_dl : ∀ {L : List Sg} {a b : Int} {ks : List Int}, Cov a L b → Ris ks → (∀ k ∈ ks, a ≤ k ∧ k < b) → ∀ h, sm L (dl L ks) h = Pn.cnt (ks.map (ow L)) h
  | [], a, b, ks, hc, hr, hk, h => by
    have e : a = b := hc
    cases ks with
    | nil => rfl
    | cons x o => have := hk x (by simp); omega
  | s :: r, a, b, ks, hc, hr, hk, h => by
    have e1 : ks = ks.take (wth ks s.hi) ++ ks.drop (wth ks s.hi) := (List.take_append_drop _ _).symm
    have ih := sm_dl (ks := ks.drop (wth ks s.hi)) hc.2.2 (hr.drop _) (fun k hk' => ⟨by have := drop_wth ks s.hi hr k hk'; omega, (hk k (List.mem_of_mem_drop hk')).2⟩) h
    have e2 : (ks.drop (wth ks s.hi)).map (ow (s :: r)) = (ks.drop (wth ks s.hi)).map (ow r) := List.map_congr_left (fun k hk' => by
      have := drop_wth ks s.hi hr k hk'
      simp only [ow]
      rw [if_neg (by omega)])
    have e3 := cnt_all ((ks.take (wth ks s.hi)).map (ow (s :: r))) s.h h (fun y hy => by
      obtain ⟨k, hk', rfl⟩ := List.mem_map.1 hy
      simp only [ow]
      rw [if_pos (take_wth ks s.hi k hk')])
    rw [List.length_map, List.length_take, Nat.min_eq_left (wth_le ks s.hi)] at e3
    show (if s.h = (h : Int) then (wth ks s.hi : Int) else 0) + sm r (dl r (ks.drop (wth ks s.hi))) h = _
    rw [ih, ← e3, ← e2, ← cnt_append, ← List.map_append, ← e1]
theorem sm_snoc : ∀ (L : List Sg) (ms : List Nat) (s : Sg) (m h : Nat), L.length = ms.length → sm (L ++ [s]) (ms ++ [m]) h = sm L ms h + (if s.h = (h : Int) then (m : Int) else 0)
  | [], [], s, m, h, _ => by simp [sm]
  | x :: L, y :: ms, s, m, h, e => by
    have ih := sm_snoc L ms s m h (by simpa using e)
    simp only [List.cons_append, sm, ih]
    omega
end Go.Proofs.YtbifmcadllilhaaGreat.Rg
namespace Go.Proofs.YtbifmcadllilhaaGreat.Rg
open Go.RowKit Go.Shelf Go.Sort
open Go.Proofs.YtbifmcadllilhaaGreat.It
attribute [local go_sem] Oper.semAt_some
set_option linter.unusedVariables false
/-- a stretch -/
structure St where
  sg : Sg
  a : Option Addr
  n : Nat
  c : Nat
def cellsS (s : St) : List Value := [.int .u64 s.sg.lo, .int .u64 s.sg.hi, .int .u8 s.sg.h, .slice s.a s.n s.c]
def cellsT (l : List St) : List Value := l.flatMap cellsS
theorem cellsT_snoc (l : List St) (s : St) : cellsT (l ++ [s]) = cellsT l ++ cellsS s := by simp [cellsT]
theorem cellsT_at : ∀ (l : List St) (k : Nat) (x : St), l[k]? = some x → ∀ j, j < 4 → (cellsT l)[k * 4 + j]? = (cellsS x)[j]?
  | [], k, x, h, j, _ => by simp at h
  | a :: l, 0, x, h, j, hj => by
    simp at h; subst h
    simp only [cellsT, List.flatMap_cons, Nat.zero_mul, Nat.zero_add]
    rw [List.getElem?_append_left (by simp [cellsS]; omega)]
  | a :: l, k + 1, x, h, j, hj => by
    have ih := cellsT_at l k x (by simpa using h) j hj
    simp only [cellsT, List.flatMap_cons]
    rw [List.getElem?_append_right (by simp [cellsS]; omega)]
    have : (k + 1) * 4 + j - (cellsS a).length = k * 4 + j := by simp [cellsS]; omega
    rw [this]; exact ih
theorem row4_at {w : World} {B : Nat} {v : Value} {l : List St} (h : w.ownsRow B 99 4 v l.length (cellsT l)) {i : Nat} {s : St} (hi : l[i]? = some s) : ∃ r cap, v = .slice (some ⟨r, 0, none⟩) l.length cap ∧ w.cell? ⟨r, i * 4, none⟩ = some (.int .u64 s.sg.lo) ∧ w.cell? ⟨r, i * 4 + 1, none⟩ = some (.int .u64 s.sg.hi) ∧ w.cell? ⟨r, i * 4 + 2, none⟩ = some (.int .u8 s.sg.h) ∧ w.cell? ⟨r, i * 4 + 3, none⟩ = some (.slice s.a s.n s.c) := by
  have hlt : i < l.length := (List.getElem?_eq_some_iff.1 hi).1
  rcases h.2 with ⟨_, h0⟩ | ⟨r, cap, cur, e, hB, hg, h1, h2, h3, h4⟩
  · omega
  · have key : ∀ j, j < 4 → cur[i * 4 + j]? = (cellsS s)[j]? := by
      intro j hj
      have e1 := cellsT_at l i s hi j hj
      rw [← h4, List.getElem?_take_of_lt (by omega)] at e1
      simpa using e1
    refine ⟨r, cap, e, ?_, ?_, ?_, ?_⟩
    · have := key 0 (by omega)
      simpa [World.cell?, hg, cellsS] using this
    · have := key 1 (by omega)
      simpa [World.cell?, hg, cellsS] using this
    · have := key 2 (by omega)
      simpa [World.cell?, hg, cellsS] using this
    · have := key 3 (by omega)
      simpa [World.cell?, hg, cellsS] using this
/-- the loads of stretches -/
def sl (l : List St) (h : Nat) : Int := sm (l.map (·.sg)) (l.map (·.n)) h
theorem sl_snoc (l : List St) (s : St) (h : Nat) : sl (l ++ [s]) h = sl l h + (if s.sg.h = (h : Int) then (s.n : Int) else 0) := by
  unfold sl
  rw [List.map_append, List.map_append]
  exact sm_snoc _ _ _ _ _ (by simp)
theorem sl_bound : ∀ (l : List St) (h : Nat), (∀ s ∈ l, s.n ≤ 17592186044416) → 0 ≤ sl l h ∧ sl l h ≤ (l.length : Int) * 17592186044416
  | [], h, _ => by simp [sl, sm]
  | s :: l, h, hb => by
    have ih := sl_bound l h (fun x hx => hb x (by simp [hx]))
    have h1 := hb s (by simp)
    have e : sl (s :: l) h = (if s.sg.h = (h : Int) then (s.n : Int) else 0) + sl l h := rfl
    rw [e, List.length_cons]
    split <;> omega
set_option maxRecDepth 100000 in
set_option maxHeartbeats 2000000 in
theorem loadsOf43 (w : World) (B n : Nat) (v : Value) (l : List St) (ho : w.ownsRow B 99 4 v l.length (cellsT l)) (h1 : n ≤ 16) (hh : ∀ s ∈ l, 0 ≤ s.sg.h ∧ s.sg.h < (n : Int)) (hl : l.length ≤ 8192) (hb : ∀ s ∈ l, s.n ≤ 17592186044416) :
    Calls Tryz.prog 39 #[.int .i64 (n : Int), v] w fun e w' => ∃ g, e = .returned (.slice (some ⟨g, 0, none⟩) n n) ∧ w'.ownsRow w.heap.size 3 1 (.slice (some ⟨g, 0, none⟩) n n) n ((List.range n).map (fun q => Value.int .i64 (sl l q))) ∧ Kp Nu w w' := by
  have mixed : Tryz.prog.follows .mixedOrders = true := by kernel_rfl
  obtain ⟨va, vc, rfl⟩ := own_slice ho
  obtain ⟨N, eN⟩ : ∃ N, l.length = N := ⟨_, rfl⟩
  have HU := hide (And.intro ho (And.intro eN (And.intro hh hb)))
  rw [eN] at hl ⊢
  have hNI : (N : Int) ≤ 8192 := by omega
  have hnI : (n : Int) ≤ 16 := by omega
  clear ho eN hh hb hl
  obtain ⟨z0, hzi, hz0, hz1, hz2⟩ := info_parts Pn.info3z
  go_enter Tryz.func39, Tryz.ntmps39
  go_wp2_with (at_make; refine wpList_make_full _ rfl _ _ 45 rfl w.heap.size 3 z0 _ 1 Tryz.underlying45 hzi hz0 hz1 _ _ _ _ n rfl rfl rfl rfl (by rw [hz2]; omega) (by unfold maxLen; omega) (Nat.le_refl _) ?_; intro w4 hrow4 hgr4)
  have H4 := hide (And.intro (Pn.hq_zero hrow4) ((Kp.of_grown hgr4).mono (T := Nu) (fun _ _ e => by cases e)))
  clear hrow4 hgr4
  go_wp2
  go_loopw [12] (fun iv wr => ∃ i : Nat, iv = .int .i64 (i : Int) ∧ i ≤ N ∧ Hid (Pn.Hq wr w.heap.size n (fun q => q < n) (sl (l.take i)) ∧ Kp Nu w wr)) (fun iv _ => N - (intOf iv).toNat)
  case atStart => exact ⟨0, rfl, Nat.zero_le _, hide ⟨H4.out.1.ext (fun q _ => by simp [sl, sm]), H4.out.2⟩⟩
  case round =>
    obtain ⟨i, rfl, hi, hI⟩ := hrel
    have hi0 : (0 : Int) ≤ (i : Int) := by omega
    by_cases hlt : i < N
    · have hltI : (i : Int) < (N : Int) := by omega
      obtain ⟨s, hs⟩ : ∃ s, l[i]? = some s := ⟨_, List.getElem?_eq_getElem (by rw [HU.out.2.1]; exact hlt)⟩
      obtain ⟨r, cap, e, x0, x1, x2, x3⟩ := row4_at HU.out.1 hs
      simp only [Value.slice.injEq] at e
      obtain ⟨rfl, e1, e2⟩ := e
      replace x0 := cell_nu x0 hI.out.2
      replace x1 := cell_nu x1 hI.out.2
      replace x2 := cell_nu x2 hI.out.2
      replace x3 := cell_nu x3 hI.out.2
      have eti : (i : Int).toNat = i := by omega
      have hsm := List.mem_of_getElem? hs
      have hsh := HU.out.2.2.1 s hsm
      have hsn := HU.out.2.2.2 s hsm
      have htk : l.take (i + 1) = l.take i ++ [s] := by rw [List.take_add_one, hs]; rfl
      obtain ⟨q, hq⟩ : ∃ q : Nat, s.sg.h = (q : Int) := ⟨s.sg.h.toNat, by omega⟩
      have hqn : q < n := by omega
      have hqI : (q : Int) < (n : Int) := by omega
      have hq0 : (0 : Int) ≤ (q : Int) := by omega
      have etq : (q : Int).toNat = q := by omega
      rw [hq] at x2
      obtain ⟨sa, sn, sc, e3⟩ : ∃ sa sn sc, Value.slice s.a s.n s.c = .slice sa sn sc ∧ s.n = sn := ⟨_, _, _, rfl, rfl⟩
      rw [e3.1] at x3
      obtain ⟨c, hc⟩ : ∃ c, sl (l.take i) q = c := ⟨_, rfl⟩
      have kA := Kp.alloc wr (.cells #[.int .u64 s.sg.lo, .int .u64 s.sg.hi, .int .u8 (q : Int), .slice sa sn sc] 99) Nu
      have hqA := hI.out.1.nu kA.toPn
      have y1 := hqA.at_ hqn
      rw [hc] at y1
      have hf := hqA.free q
      have hbd := sl_bound (l.take i) q (fun x hx => HU.out.2.2.2 x (List.mem_of_mem_take hx))
      rw [hc, List.length_take] at hbd
      have ew : IntKind.i64.wrap (c + (sn : Int)) = c + (sn : Int) := by have := e3.2; rw [IntKind.wrap_i64]; omega
      have HX := hide (And.intro hs (And.intro htk (And.intro hq (And.intro hc (And.intro e3.2 (And.intro hqA (hI.out.2.andNu kA)))))))
      clear hs htk hq hc e3 hsm hsh hsn e1 e2 hbd hqA kA
      go_wp2_with fail
      go_region
      go_wp2
      refine ⟨⟨i + 1, by go_num, by omega, hide ⟨?_, (HX.out.2.2.2.2.2.2.andSet _ _ (.inl (Nat.le_refl _))).drew⟩⟩, by simp [intOf]; omega⟩
      have e1 : c + (sn : Int) = sl (l.take (i + 1)) q := by rw [HX.out.2.1, sl_snoc, HX.out.2.2.2.1, if_pos HX.out.2.2.1, HX.out.2.2.2.2.1]
      rw [e1]
      refine (HX.out.2.2.2.2.2.1.set (f' := sl (l.take (i + 1))) hqn (fun p hp => .inr hp) (fun p hp _ => ?_)).nu (Pn.kp_drawn _)
      rw [HX.out.2.1, sl_snoc, if_neg (by have := HX.out.2.2.1; omega), Int.add_zero]
    · have hge : ¬ (i : Int) < (N : Int) := by omega
      obtain rfl : N = i := by omega
      go_wp2
      go_ret
      refine ⟨_, rfl, hI.out.1.own (fun q hq => hq) (Nat.le_refl _) h1 _ ?_, hI.out.2⟩
      rw [← HU.out.2.1, List.take_length]
end Go.Proofs.YtbifmcadllilhaaGreat.Rg
namespace Go.Proofs.YtbifmcadllilhaaGreat.It
open Go.RowKit Go.Shelf
set_option linter.unusedVariables false

/-- a sequence that may itself go through another one: the caller's word stands whatever of the sequence's own blocks turns -/
def SeqQ {α : Type} (P : Program) (g : Nat) (lb : Array Value) (encs : α → Array Value) (K : Nat → TypeId → Prop) (S Sp : List α → Prop) (N : Nat) (w : World) : Prop :=
  ∀ (n l : Nat) (J Jx : List α → World → Prop) (W : World), Below w.heap.size w W → OwnFrom W.heap.size J → OwnFrom W.heap.size Jx →
    (∀ pre x W1, J pre W1 → Sp (pre ++ [x]) → ∀ m, YieldAt Fence.wide m P l (encs x) W1 fun e W' => KeepsFrom W.heap.size W1 W' ∧
      ((e = .returned (.bool true) ∧ J (pre ++ [x]) W' ∧ Kc K W1 W') ∨ (e = .returned (.bool false) ∧ Jx (pre ++ [x]) W'))) →
    J [] W →
    CallsIn Fence.wide n P g (#[.func (.yield l) #[] #[]] ++ lb) W fun e W' => (∃ v, e = .returned v) ∧ ((∃ xs, S xs ∧ J xs W') ∨ (∃ pre, Sp pre ∧ Jx pre W'))

section
variable {P : Program} {α : Type}
theorem range_q {g : Operand} {ps : Array Tmp} {assign body : Code} {Q : Exit → Act → World → Prop} {a : Act} {w : World} {n : Nat}
    {gf : Nat} {lb : Array Value} (hg : a.eval g = .func (.func gf) #[] lb) (eg : ∀ args w, (callFunc gf args).run P w = .ok (.enter gf args) w)
    {encs : α → Array Value} {K : Nat → TypeId → Prop} {S Sp : List α → Prop} {N : Nat} {w0 : World} (hseq : SeqQ P gf lb encs K S Sp N w0) (hb0 : Below w0.heap.size w0 w) (hps : ∀ x, (encs x).size = ps.size)
    (I : List α → World → Prop) (Ix : Code → List α → World → Prop) (hI : OwnFrom w.heap.size I) (hIx : ∀ c, OwnFrom w.heap.size (Ix c)) (h0 : I [] w)
    (Ax : α → Act → World → Prop) (hAx : ∀ x a', OwnFrom w.heap.size (fun (_ : Unit) W => Ax x a' W))
    (hassign : ∀ (l : Nat) (pre : List α) (x : α) (W : World) (R : Act → World → Prop), I pre W → (∀ a' W', KeepsFrom w.heap.size W W' → Kc K W W' → I pre W' → Ax x a' W' → R a' W') →
      assign.wpIn (Fence.wide.inRound l) (n - 1 - 1) P (Exit.then R (fun _ _ _ => False)) { tmps := (ps.zip (encs x)).foldl (fun t (p, v) => t.setIfInBounds p v) a.tmps, defers := [] } W)
    (hbody : ∀ (l : Nat) (pre : List α) (x : α) (a' : Act) (W : World), w.heap.size ≤ l → (∃ r, W.heap[l]? = some (.loop r)) → I pre W → Ax x a' W → Sp (pre ++ [x]) → body.wpIn (Fence.wide.inRound l) (n - 1 - 1) P (ownPostG w.heap.size (Kc K) I Ix (pre ++ [x]) W) a' W)
    (hdone : ∀ (D : Nat) (xs : List α) (W : World), w.heap.size ≤ D → S xs → I xs W → W.heap[D]? = some (.deferred (some [])) → Q .normal { a with defers := { target := .collected D, args := #[] } :: a.defers } W)
    (hstop : ∀ (D : Nat) (c : Code) (pre : List α) (W : World), w.heap.size ≤ D → Sp pre → Ix c pre W → W.heap[D]? = some (.deferred (some [])) → c.wpIn Fence.wide n P Q { a with defers := { target := .collected D, args := #[] } :: a.defers } W) :
    (Code.rangeFunc g ps assign body).wpIn Fence.wide n P Q a w := by
  refine wpIn_rangeFunc fun fn hfn => ?_
  obtain ⟨B, hB⟩ : ∃ B, w.heap.size = B := ⟨_, rfl⟩
  obtain ⟨R, hR⟩ : ∃ R : LoopState → Option Code → Loop, R = recd fn a.tmps ps assign body B := ⟨_, rfl⟩
  obtain ⟨V, hV⟩ : ∃ V, (w.alloc (.deferred (some []))).alloc (.loop (R .ready none)) = V := ⟨_, rfl⟩
  have hVs : V.heap.size = B + 2 := by rw [← hV]; simp [hB]
  have hVl : V.heap[B + 1]? = some (.loop (R .ready none)) := by
    have := World.alloc_heap_new (w.alloc (.deferred (some []))) (.loop (R .ready none))
    rw [World.size_alloc, hB, hV] at this; exact this
  have hVd : V.heap[B]? = some (.deferred (some [])) := by
    rw [← hV, ← hB]; exact (Below.heap_alloc _ _ _ (by simp)).trans (World.alloc_heap_new w _)
  have hVb : Below w0.heap.size w0 V := by
    rw [← hV]; exact (hb0.alloc hb0.size _).alloc (by have := hb0.size; simp; omega) _
  have hVI : I [] V := by rw [← hV]; exact hI.alloc _ (hI.alloc _ h0)
  rw [hB] at hI hIx hAx hassign hbody hdone hstop
  refine ⟨B + 1, [{ target := .collected B, args := #[] }], V, { target := .fn (.func gf) lb, args := #[.func (.yield (B + 1)) #[] #[]] }, V, gf, #[.func (.yield (B + 1)) #[] #[]] ++ lb, V, ?_, ?_, fun _ _ => trivial, ?_, fun h => (by cases h), ?_⟩
  · have := run_enterLoop_outer (P := P) (w := w) fn a.tmps ps assign body
    rw [hB] at this
    rw [← hV, hR]
    exact this
  · simp only [resolve, hg]
    simp [go_sem]
  · simp [invoke, go_sem, eg]
  have turnI : OwnFrom V.heap.size (fun pre W => I pre W ∧ W.heap[B + 1]? = some (.loop (R .ready none)) ∧ W.heap[B]? = some (.deferred (some []))) := fun s X Y row hs hgr hr =>
    ⟨own_turn hI (by omega) s X Y row hs.1 hgr hr, own_block (by omega) () X Y row hs.2.1 hgr hr, own_block (by omega) () X Y row hs.2.2 hgr hr⟩
  have turnX : OwnFrom V.heap.size (fun pre W => ∃ c, Ix c pre W ∧ W.heap[B + 1]? = some (.loop (R .done (some c))) ∧ W.heap[B]? = some (.deferred (some []))) := fun s X Y row hs hgr hr => by
    obtain ⟨c, h1, h2, h3⟩ := hs
    exact ⟨c, own_turn (hIx c) (by omega) s X Y row h1 hgr hr, own_block (by omega) () X Y row h2 hgr hr, own_block (by omega) () X Y row h3 hgr hr⟩
  refine (hseq (n - 1) (B + 1) _ _ V hVb turnI turnX ?_ ⟨hVI, hVl, hVd⟩).mono ?_
  · rintro pre x W ⟨hi, hl, hd⟩ hlen m
    refine deep (m := n - 1 - 1) m ?_
    have hy := run_yield (P := P) (args := encs x) hl (by rw [hR]; exact hps x)
    rw [hR] at hy
    refine ⟨fn, _, assign, body, hy, roundIn_of_wpIn hfn (hassign _ pre x W _ hi ?_)⟩
    clear hy
    intro a' W' kf kc hi' hax
    have hl' := kf.same _ _ (by omega) hl rfl
    have hd' := kf.same _ _ (Nat.le_refl _) hd rfl
    have hlt : B + 1 < W'.heap.size := (Array.getElem?_eq_some_iff.1 hl').1
    refine ⟨_, run_beginRound hl' (by rw [hR]), ?_⟩
    obtain ⟨X, hX⟩ : ∃ X, W'.putObj (B + 1) (.loop { R .ready none with state := .busy }) = X := ⟨_, rfl⟩
    have xl : X.heap[B + 1]? = some (.loop { R .ready none with state := .busy }) := by rw [← hX]; exact World.putObj_heap_same hlt
    have xd : X.heap[B]? = some (.deferred (some [])) := by rw [← hX]; exact (World.putObj_heap_other (by omega)).trans hd'
    have xc : Kc K W' X := by rw [← hX]; exact Kc.put _ _ _ _ hl' rfl
    have xs : ∀ k, k ≠ B + 1 → X.heap[k]? = W'.heap[k]? := fun k hk => by rw [← hX]; exact World.putObj_heap_other hk
    have xz : X.heap.size = W'.heap.size := by rw [← hX]; simp
    have xi : I pre X := by rw [← hX]; exact hI.putObj _ hi' (by omega) hl' rfl
    have xa : Ax x a' X := by rw [← hX]; exact (hAx x a').putObj (s := ()) _ hax (by omega) hl' rfl
    rw [hX]
    refine wpIn_mono (hbody _ pre x a' X (by omega) ⟨_, xl⟩ xi xa hlen) ?_
    have fin : ∀ (jump : Option Code) (Y : World), KeepsFrom B X Y → ∃ Z, Y.putObj (B + 1) (.loop (R (if jump.isNone then .ready else .done) jump)) = Z ∧ (Instr.endRound (B + 1) jump).run P Y = .ok (.bool jump.isNone) Z ∧ Y.heap[B + 1]? = some (.loop { R .ready none with state := .busy }) ∧
        Z.heap[B + 1]? = some (.loop (R (if jump.isNone then .ready else .done) jump)) ∧ Z.heap[B]? = some (.deferred (some [])) ∧ KeepsFrom V.heap.size W Z := fun jump Y ky => by
      have yl := ky.same _ _ (by omega) xl rfl
      have h1 := run_endRound (P := P) jump yl
      refine ⟨_, rfl, ?_, yl, World.putObj_heap_same (Array.getElem?_eq_some_iff.1 yl).1, (World.putObj_heap_other (by omega)).trans (ky.same _ _ (Nat.le_refl _) xd rfl), ?_⟩
      · rw [hR] at h1 ⊢; exact h1
      · refine ⟨?_, fun k o hk h2 ho => ?_⟩
        · have := kf.size; have := ky.size; simp; omega
        · have h3 := kf.same k o (by omega) h2 ho
          have h4 := ky.same k o (by omega) ((xs k (by omega)).trans h3) ho
          exact (World.putObj_heap_other (by omega)).trans h4
    rintro e a3 Y hp
    cases e with
    | normal =>
      obtain ⟨ky, kyc, yi⟩ := hp
      obtain ⟨Z, hZ, hr, yl, zl, zd, kz⟩ := fin none Y ky
      exact ⟨_, Z, hr, kz, .inl ⟨rfl, ⟨by rw [← hZ]; exact hI.putObj _ yi (by omega) yl rfl, zl, zd⟩, ((kc.trans xc).trans kyc).trans (by rw [← hZ]; exact Kc.put _ _ _ _ yl rfl)⟩⟩
    | ret =>
      obtain ⟨ky, yi⟩ := hp
      obtain ⟨Z, hZ, hr, yl, zl, zd, kz⟩ := fin (some .ret) Y ky
      exact ⟨_, Z, hr, kz, .inr ⟨rfl, .ret, by rw [← hZ]; exact (hIx _).putObj _ yi (by omega) yl rfl, zl, zd⟩⟩
    | exit id =>
      obtain ⟨ky, yi⟩ := hp
      obtain ⟨Z, hZ, hr, yl, zl, zd, kz⟩ := fin (some (.exit id)) Y ky
      exact ⟨_, Z, hr, kz, .inr ⟨rfl, .exit id, by rw [← hZ]; exact (hIx _).putObj _ yi (by omega) yl rfl, zl, zd⟩⟩
    | goto t =>
      obtain ⟨ky, yi⟩ := hp
      obtain ⟨Z, hZ, hr, yl, zl, zd, kz⟩ := fin (some (.goto t)) Y ky
      exact ⟨_, Z, hr, kz, .inr ⟨rfl, .goto t, by rw [← hZ]; exact (hIx _).putObj _ yi (by omega) yl rfl, zl, zd⟩⟩
    | panic ch => exact hp.elim
    | outgrown => exact hp.elim
  · rintro e X ⟨⟨v, rfl⟩, (⟨xs, hS, hi, hl, hk⟩ | ⟨pre, hSp, c, hi, hl, hk⟩)⟩
    · exact ⟨none, _, by have := run_endLoop (P := P) hl (by rw [hR]; simp); rw [hR] at this; exact this, hdone _ xs _ (Nat.le_refl _) hS (hI.putObj _ hi (by omega) hl rfl) ((World.putObj_heap_other (by omega)).trans hk)⟩
    · exact ⟨some c, _, by have := run_endLoop (P := P) hl (by rw [hR]; simp); rw [hR] at this; exact this, hstop _ c pre _ (Nat.le_refl _) hSp ((hIx c).putObj _ hi (by omega) hl rfl) ((World.putObj_heap_other (by omega)).trans hk)⟩
end
end Go.Proofs.YtbifmcadllilhaaGreat.It
namespace Go.Proofs.YtbifmcadllilhaaGreat.Rg
open Go.RowKit Go.Shelf Go.Sort
open Go.Proofs.YtbifmcadllilhaaGreat.It
attribute [local go_sem] Oper.semAt_some
set_option maxRecDepth 100000 in
set_option maxHeartbeats 1000000 in
theorem from1_q (n : Nat) (l Bn r off cap : Nat) (M : List Sg) (cur : Array Value) (hM : M.length ≤ 8192) (hrow : Row cur off M) (J Jx : List Sg → World → Prop)
    (hY : ∀ pre x W, J pre W → pre ++ [x] <+: M → YieldAt Fence.wide (n - 1) Tryz.prog l #[enc x] W fun e W' =>
      (e = .returned (.bool true) ∧ J (pre ++ [x]) W' ∧ Kc (fun k _ => k = r) W W') ∨ (e = .returned (.bool false) ∧ Jx (pre ++ [x]) W'))
    (W : World) (hJ : AbidesFrom W.heap.size J) (hc : W.heap[Bn]? = some (.cells #[.slice (some ⟨r, off, none⟩) M.length cap] 22 (0, 0))) (hr : W.heap[r]? = some (.cells cur 38 (0, 0))) (h0 : J [] W) :
    CallsIn Fence.wide n Tryz.prog 82 #[.func (.yield l) #[] #[], .pointer (some ⟨Bn, 0, none⟩)] W fun e W' => (∃ v, e = .returned v) ∧
      ((∃ ys, ys = M ∧ J ys W') ∨ (∃ pre, pre <+: M ∧ Jx pre W')) := by
  refine callsIn_of_wp Tryz.func82 rfl trivial ?_ rfl
  simp only [Tryz.ntmps82, List.size_toArray, List.length_cons, List.length_nil, Nat.reduceAdd, Nat.reduceSub, Array.replicate_succ, Array.replicate_zero, List.push_toArray, List.append_toArray, List.nil_append, List.cons_append]
  have hcc := cell1 hc
  have HROW := hide hrow
  obtain ⟨N, hN⟩ : ∃ N, M.length = N := ⟨_, rfl⟩
  rw [hN] at hcc hM
  have HY := hide hY
  have HJ := hide hJ
  clear hrow hc hY hJ
  have HN := hide hN
  clear hN
  gi_wp2
  gi_loopw [7] (fun i wr => ∃ k : Nat, i = .int .i64 (k : Int) ∧ k ≤ N ∧ wr.heap[r]? = some (.cells cur 38 (0, 0)) ∧ Hid (J (M.take k) wr))
    (fun i _ => N - (intOf i).toNat)
  case atStart => exact ⟨0, rfl, Nat.zero_le _, hr, show J (M.take 0) W by simpa using h0⟩
  case round =>
    obtain ⟨k, rfl, hk, hrw, hJk⟩ := hrel
    by_cases hlt : k < N
    · have hkM : k < M.length := by rw [HN.out]; exact hlt
      obtain ⟨s, hs⟩ : ∃ s, M[k]? = some s := ⟨_, List.getElem?_eq_getElem hkM⟩
      obtain ⟨x0, x1, x2⟩ := HROW.out k s hs
      have y0 : wr.cell? ⟨r, off + k * 3, none⟩ = some (.int .u64 s.lo) := by simp [World.cell?, hrw, x0]
      have y1 : wr.cell? ⟨r, off + k * 3 + 1, none⟩ = some (.int .u64 s.hi) := by simp [World.cell?, hrw, x1]
      have y2 : wr.cell? ⟨r, off + k * 3 + 2, none⟩ = some (.int .u8 s.h) := by simp [World.cell?, hrw, x2]
      have hltI : (k : Int) < (N : Int) := by omega
      have hk0 : (0 : Int) ≤ (k : Int) := by omega
      have hkN : (k : Int) ≤ 8192 := by omega
      have hJ2 : J (M.take k) (wr.alloc (.cells #[.int .u64 s.lo, .int .u64 s.hi, .int .u8 s.h] 38)) := HJ.out _ _ _ none hJk.out (World.grownBy_alloc wr _ none) (fun r e => by cases e)
      obtain ⟨fn, tmps, assign, body, hy, hR⟩ := HY.out (M.take k) s _ hJ2 ⟨M.drop (k + 1), by rw [show M.take k ++ [s] = M.take (k + 1) by rw [List.take_add_one, hs]; rfl]; simp⟩
      have HT : Hid (M.take k ++ [s] = M.take (k + 1)) := by
        show _ = _
        rw [List.take_add_one, hs]; rfl
      have HB : Hid ((wr.alloc (.cells #[.int .u64 s.lo, .int .u64 s.hi, .int .u8 s.h] 38)).heap[r]? = some (.cells cur 38 (0, 0))) := (Below.heap_alloc _ _ _ (blk_lt hrw)).trans hrw
      unfold enc at hy
      clear hJ2 hJk x0 x1 x2 hs hrw
      gi_wp2
      refine ⟨fun h => (by cases h), hR.mono ?_⟩
      rintro e W3 (⟨rfl, hJ4, hk3⟩ | ⟨rfl, hJx3⟩)
      · have hr3 := hk3 r _ _ _ rfl HB.out
        gi_wp2
        go_roundw
        case rel => exact ⟨k + 1, by go_num, by omega, hr3, by rw [← HT.out]; exact hJ4⟩
        case measure => simp [intOf]; omega
      · gi_wp2
        refine bodyPost_ret (results_none rfl _ _ _) rfl ?_
        exact ⟨⟨_, rfl⟩, .inr ⟨_, ⟨M.drop (k + 1), by rw [HT.out]; simp⟩, hJx3⟩⟩
    · have hge : ¬ (k : Int) < (N : Int) := by omega
      have HF : Hid (J M wr) := by
        have := hJk.out
        rwa [List.take_of_length_le (by rw [HN.out]; omega)] at this
      clear hJk
      gi_wp2
      go_end0
      first | exact ⟨⟨_, rfl⟩, .inl ⟨M, rfl, HF.out⟩⟩ | exact ⟨⟨_, rfl⟩, .inl HF.out⟩


theorem from_q (Bn r off cap : Nat) (M : List Sg) (cur : Array Value) (hM : M.length ≤ 8192) (hrow : Row cur off M) (w : World) (hc : w.heap[Bn]? = some (.cells #[.slice (some ⟨r, off, none⟩) M.length cap] 22 (0, 0))) (hr : w.heap[r]? = some (.cells cur 38 (0, 0))) :
    SeqQ Tryz.prog 82 #[.pointer (some ⟨Bn, 0, none⟩)] (fun x : Sg => #[enc x]) (fun k _ => k = r) (fun ys => ys = M) (fun pre => pre <+: M) M.length w := fun n l J Jx W hW hJ hJx hY h0 =>
  from1_q n l Bn r off cap M cur hM hrow J Jx (fun pre x W1 hj hl => by
      obtain ⟨fn, tmps, assign, body, hy, hR⟩ := hY pre x W1 hj hl (n - 1)
      exact ⟨fn, tmps, assign, body, hy, hR.mono fun e W' hh => hh.2⟩) W
    (fun s A B row hs hg hr => hJ s A B row hs hg (fun r e => ⟨(hr r e).1, _, (hr r e).2.choose_spec.1, Obj.not_cells_of_walk (hr r e).2.choose_spec.2⟩))
    ((hW.block Bn (blk_lt hc)).trans hc) ((hW.block r (blk_lt hr)).trans hr) h0
end Go.Proofs.YtbifmcadllilhaaGreat.Rg
namespace Go.Proofs.YtbifmcadllilhaaGreat.Ord
open Go
set_option linter.unusedVariables false
/-- an append, as one step of a region that draws -/
theorem wpOpIn_append {F : Fence} {n : Nat} {P : Program} {ops : Array Oper} {Q : Exit → Act → World → Prop} {i : Nat} {K : Act → World → Prop} {a : Act} {w w' : World} {o : Oper} (ho : ops[i]? = some o) (hg : o.guard = none) (s x : Operand) (t : TypeId)
    (hop : o.op = Op.call { callee := Callee.builtin Builtin.append, args := #[s, x], argTypes := #[t, t] }) (v u v' : Value) (hs : a.eval s = v) (hx : a.eval x = u) (hrun : (Builtin.append_ #[t, t] o.type #[v, u]).run P w = .ok v' w') (h : K (a.put o.dst v') w') :
    wpOpIn F n P ops Q i K a w := by
  refine wpOpIn_step ho (fun K' hK' => ?_)
  rw [if_pos (by simp [Region.wanted, hg])]
  unfold Oper.wpIn
  refine ⟨?_, ?_⟩
  · simp [Oper.about, hop, resolve, Target.leads, Sem.run_pure]
  · rw [Oper.semAt_plain F _ _ (by rw [hop]; intro c hc'; cases hc')]
    simp [execOp, hop, resolve, invoke, builtin, hs, hx, hrun, Result.andThen]
    exact hK' _ _ h
end Go.Proofs.YtbifmcadllilhaaGreat.Ord
