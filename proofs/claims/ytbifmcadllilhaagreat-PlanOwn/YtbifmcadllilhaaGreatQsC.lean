import Derived.Test.YtbifmcadllilhaaGreatPmB
import Derived.BigQuiet
import Derived.Test.YtbifmcadllilhaaGreatPmK
namespace Go.Proofs.YtbifmcadllilhaaGreat.Rg
open Go.RowKit Go.Shelf Go.Sort
set_option linter.unusedVariables false
def gt (l : List Int) (k : Nat) : Int := l.getD k 0
theorem gt_get {l : List Int} {k : Nat} (h : k < l.length) : l[k]? = some (gt l k) := by
  unfold gt
  rw [List.getD_eq_getElem?_getD, List.getElem?_eq_getElem h]
  rfl
/-- a row of numbers that is being sorted -/
structure Dr (w : World) (B g n c : Nat) (l : List Int) : Prop where
  own : w.ownsRow B 24 1 (.slice (some ⟨g, 0, none⟩) n c) n (ucs l)
  len : l.length = n
theorem Dr.at_ {w : World} {B g n c : Nat} {l : List Int} (h : Dr w B g n c l) {k : Nat} (hk : k < n) : w.cell? ⟨g, k, none⟩ = some (.int .u64 (gt l k)) ∧ w.frozen? ⟨g, k, none⟩ = false := by
  have hl := h.len
  have ho := h.own
  have e : (ucs l).length = n := by rw [ucs_len]; exact hl
  rw [← e] at ho
  have hi : (ucs l)[k]? = some (.int .u64 (gt l k)) := by unfold ucs; rw [List.getElem?_map, gt_get (by omega)]; rfl
  obtain ⟨r, cap, e2, _, h1, cur, h2⟩ := row1_at ho hi
  simp only [Value.slice.injEq, Option.some.injEq, Addr.mk.injEq, and_true] at e2
  obtain ⟨rfl, _⟩ := e2
  exact ⟨h1, free3 h2 k⟩
theorem ucs_set (l : List Int) (i : Nat) (x : Int) : (ucs l).set i (.int .u64 x) = ucs (l.set i x) := by
  unfold ucs
  rw [List.map_set]
theorem Dr.set {w : World} {B g n c : Nat} {l : List Int} (h : Dr w B g n c l) {k : Nat} (hk : k < n) (x : Int) : Dr (w.setCell ⟨g, k, none⟩ (.int .u64 x)) B g n c (l.set k x) := by
  refine ⟨?_, by rw [List.length_set]; exact h.len⟩
  rw [← ucs_set]
  exact own_put h.own k _ (by rw [ucs_len, h.len]; exact hk)
theorem Dr.drew {w : World} {B g n c : Nat} {l : List Int} (h : Dr w B g n c l) : Dr w.drew B g n c l := ⟨h.own, h.len⟩
theorem Dr.dn {w : World} {B g n c : Nat} {l : List Int} (h : Dr w B g n c l) (q : Nat) : Dr (w.drewN q) B g n c l := ⟨own_dn h.own q, h.len⟩
theorem Dr.nu {w w' : World} {B g n c : Nat} {l : List Int} (h : Dr w B g n c l) (k : Kp Nu w w') : Dr w' B g n c l := ⟨own_keep h.own (fun g e => k.block g (own_lt h.own e) (fun h => h)), h.len⟩
def sw (l : List Int) (i j : Nat) : List Int := (l.set i (gt l j)).set j (gt l i)
theorem sw_len (l : List Int) (i j : Nat) : (sw l i j).length = l.length := by simp [sw]
theorem gt_set (l : List Int) {i k : Nat} (x : Int) (hi : i < l.length) : gt (l.set i x) k = if k = i then x else gt l k := by
  unfold gt
  rw [List.getD_eq_getElem?_getD, List.getD_eq_getElem?_getD, List.getElem?_set]
  by_cases e : i = k
  · subst e; rw [if_pos rfl, if_pos hi, if_pos rfl]; rfl
  · rw [if_neg e, if_neg (fun c => e c.symm)]
theorem sw_get (l : List Int) {i j k : Nat} (hi : i < l.length) (hj : j < l.length) : gt (sw l i j) k = if k = j then gt l i else if k = i then gt l j else gt l k := by
  unfold sw
  rw [gt_set _ _ (by rw [List.length_set]; exact hj), gt_set _ _ hi]
theorem sw_perm (l : List Int) {i j : Nat} (hi : i < l.length) (hj : j < l.length) : (sw l i j).Perm l := by
  rw [List.perm_iff_count]
  intro a
  unfold sw
  rw [List.count_set (by rw [List.length_set]; exact hj), List.count_set hi]
  have e1 : (l.set i (gt l j))[j]'(by rw [List.length_set]; exact hj) = gt l j := by
    have h := gt_get (l := l.set i (gt l j)) (k := j) (by rw [List.length_set]; exact hj)
    rw [List.getElem?_eq_getElem (by rw [List.length_set]; exact hj), gt_set _ _ hi] at h
    have h2 := Option.some.inj h
    rw [h2]
    split
    · rfl
    · rfl
  have e2 : l[i] = gt l i := by
    have h := gt_get hi
    rw [List.getElem?_eq_getElem hi] at h
    exact Option.some.inj h
  have hm1 : gt l i ∈ l := List.mem_of_getElem? (gt_get hi)
  have hm2 : gt l j ∈ l := List.mem_of_getElem? (gt_get hj)
  rw [e1, e2]
  have c1 : ∀ x, x ∈ l → x = a → 1 ≤ l.count a := fun x hx e => by
    rw [← e]
    exact List.count_pos_iff.2 hx
  by_cases h1 : gt l i = a
  · have p1 := c1 _ hm1 h1
    by_cases h2 : gt l j = a
    · simp only [h1, h2, beq_self_eq_true, if_true]; omega
    · have h2' : (gt l j == a) = false := by simpa using h2
      simp only [h1, h2', beq_self_eq_true, if_true]; simp; omega
  · have h1' : (gt l i == a) = false := by simpa using h1
    by_cases h2 : gt l j = a
    · have p2 := c1 _ hm2 h2
      simp only [h1', h2, beq_self_eq_true, if_true]; simp
    · have h2' : (gt l j == a) = false := by simpa using h2
      simp only [h1', h2']; simp
/-- places a to b change places among one another -/
structure Pm (a b : Nat) (l l' : List Int) : Prop where
  len : l'.length = l.length
  out : ∀ k, k < a ∨ b ≤ k → gt l' k = gt l k
  perm : l'.Perm l
theorem Pm.refl (a b : Nat) (l : List Int) : Pm a b l l := ⟨rfl, fun _ _ => rfl, List.Perm.refl _⟩
theorem Pm.trans {a b : Nat} {l l1 l2 : List Int} (h : Pm a b l l1) (k : Pm a b l1 l2) : Pm a b l l2 := ⟨k.len.trans h.len, fun q hq => (k.out q hq).trans (h.out q hq), k.perm.trans h.perm⟩
theorem Pm.mono {a b a' b' : Nat} {l l1 : List Int} (h : Pm a b l l1) (h1 : a' ≤ a) (h2 : b ≤ b') : Pm a' b' l l1 := ⟨h.len, fun q hq => h.out q (by omega), h.perm⟩
theorem Pm.sw {a b : Nat} (l : List Int) {i j : Nat} (hi : i < l.length) (hj : j < l.length) (i1 : a ≤ i) (i2 : i < b) (j1 : a ≤ j) (j2 : j < b) : Pm a b l (sw l i j) :=
  ⟨sw_len _ _ _, fun k hk => by rw [sw_get l hi hj, if_neg (by omega), if_neg (by omega)], sw_perm l hi hj⟩
theorem ext_gt {l l' : List Int} (h : l.length = l'.length) (e : ∀ k, k < l.length → gt l k = gt l' k) : l = l' := by
  apply List.ext_getElem?
  intro k
  by_cases hk : k < l.length
  · rw [gt_get hk, gt_get (by omega), e k hk]
  · rw [List.getElem?_eq_none (by omega), List.getElem?_eq_none (by omega)]
theorem gt_take {l : List Int} {a k : Nat} (h : k < a) : gt (l.take a) k = gt l k := by
  unfold gt
  rw [List.getD_eq_getElem?_getD, List.getD_eq_getElem?_getD, List.getElem?_take, if_pos h]
theorem gt_drop (l : List Int) (a k : Nat) : gt (l.drop a) k = gt l (a + k) := by
  unfold gt
  rw [List.getD_eq_getElem?_getD, List.getD_eq_getElem?_getD, List.getElem?_drop]
/-- what stands between comes of what stood between -/
theorem Pm.src {a b : Nat} {l l' : List Int} (h : Pm a b l l') (hab : a ≤ b) (hb : b ≤ l.length) {k : Nat} (k1 : a ≤ k) (k2 : k < b) : ∃ i, a ≤ i ∧ i < b ∧ gt l' k = gt l i := by
  have hl := h.len
  have e1 : l'.take a = l.take a := ext_gt (by simp; omega) (fun q hq => by
    have hq' : q < a := by simp at hq; omega
    rw [gt_take hq', gt_take hq', h.out q (.inl hq')])
  have e2 : l'.drop b = l.drop b := ext_gt (by simp; omega) (fun q hq => by
    rw [gt_drop, gt_drop, h.out (b + q) (.inr (by omega))])
  have sp : ∀ m : List Int, m.length = l.length → m = m.take a ++ ((m.drop a).take (b - a) ++ m.drop b) := fun m hm => by
    have : m.drop b = (m.drop a).drop (b - a) := by rw [List.drop_drop]; congr 1; omega
    rw [this, List.take_append_drop, List.take_append_drop]
  have hp := h.perm
  rw [sp l' hl, sp l rfl, e1, e2] at hp
  have hp2 := (List.perm_append_right_iff _).1 ((List.perm_append_left_iff _).1 hp)
  have hm : gt l' k ∈ (l'.drop a).take (b - a) := List.mem_of_getElem? (i := k - a) (by
    rw [List.getElem?_take, if_pos (by omega), List.getElem?_drop, show a + (k - a) = k by omega]
    exact gt_get (by omega))
  obtain ⟨i, hi⟩ := List.getElem?_of_mem (hp2.mem_iff.1 hm)
  rw [List.getElem?_take] at hi
  split at hi
  · rw [List.getElem?_drop] at hi
    refine ⟨a + i, by omega, by omega, ?_⟩
    have := gt_get (l := l) (k := a + i) (by omega)
    rw [this] at hi
    exact (Option.some.inj hi).symm
  · cases hi
def Srd (a b : Nat) (l : List Int) : Prop := ∀ i j, a ≤ i → i ≤ j → j < b → gt l i ≤ gt l j
theorem less127 (w : World) (x y : Int) : Calls Tryz.prog 104 #[.int .u64 x, .int .u64 y] w fun e w' => e = .returned (.bool (decide (x < y))) ∧ w' = w := by
  have n1 : ∀ (z : Int) (w : World), Calls Tryz.prog 122 #[.int .u64 z] w fun e w' => e = .returned (.bool false) ∧ w' = w := fun z w => by
    have hz : (z != z) = false := by simp
    go_enter Tryz.func122, Tryz.ntmps122
    go_wp2
    go_ret
    exact ⟨rfl, rfl⟩
  have N1 := n1 x w
  clear n1
  go_enter Tryz.func104, Tryz.ntmps104
  go_wp2_with fail
  refine N1.mono ?_; rintro e w1 ⟨rfl, hw⟩
  obtain rfl := hw.symm
  clear N1
  go_wp2
  go_ret
  exact ⟨rfl, rfl⟩
/-- sorted but for place j -/
def Ins (a i j : Nat) (l : List Int) : Prop := ∀ p q, a ≤ p → p < q → q ≤ i → q ≠ j → gt l p ≤ gt l q
theorem Ins.step {a i j : Nat} {l : List Int} (h : Ins a i j l) (hl : i < l.length) (h1 : a < j) (h2 : j ≤ i) (hlt : gt l j < gt l (j - 1)) : Ins a i (j - 1) (sw l j (j - 1)) := fun p q p1 p2 p3 p4 => by
  have hj : j < l.length := by omega
  have hj1 : j - 1 < l.length := by omega
  rw [sw_get l hj hj1, sw_get l hj hj1]
  rw [if_neg (by omega : ¬ q = j - 1)]
  by_cases c1 : p = j - 1
  · rw [if_pos c1]
    by_cases c2 : q = j
    · rw [if_pos c2]; omega
    · rw [if_neg c2]
      exact h j q (by omega) (by omega) p3 c2
  · rw [if_neg c1]
    by_cases c2 : p = j
    · rw [if_pos c2, if_neg (by omega)]
      exact h (j - 1) q (by omega) (by omega) p3 (by omega)
    · rw [if_neg c2]
      by_cases c3 : q = j
      · rw [if_pos c3]
        exact h p (j - 1) p1 (by omega) (by omega) (by omega)
      · rw [if_neg c3]
        exact h p q p1 p2 p3 c3
theorem Ins.done {a i j : Nat} {l : List Int} (h : Ins a i j l) (h1 : a ≤ j) (h2 : j ≤ i) (hd : j = a ∨ gt l (j - 1) ≤ gt l j) : Srd a (i + 1) l := fun p q p1 p2 p3 => by
  rcases Nat.eq_or_lt_of_le p2 with e | e
  · rw [e]; exact Int.le_refl _
  · by_cases c : q = j
    · subst c
      rcases hd with hd | hd
      · omega
      · by_cases c2 : p = q - 1
        · rw [c2]; exact hd
        · have := h p (q - 1) p1 (by omega) (by omega) (by omega)
          omega
    · exact h p q p1 e (by omega) c
theorem Ins.of_srd {a i : Nat} {l : List Int} (h : Srd a i l) : Ins a i i l := fun p q p1 p2 p3 p4 => h p q p1 (by omega) (by omega)
end Go.Proofs.YtbifmcadllilhaaGreat.Rg
namespace Go.Proofs.YtbifmcadllilhaaGreat.Rg
open Go.RowKit Go.Shelf Go.Sort
set_option linter.unusedVariables false
/-- two cells exchanged, as the walk lays it -/
theorem Dr.sw {w : World} {B g n c : Nat} {l : List Int} (h : Dr w B g n c l) {i j : Nat} (hi : i < n) (hj : j < n) : Dr ((w.setCell ⟨g, i, none⟩ (.int .u64 (gt l j))).setCell ⟨g, j, none⟩ (.int .u64 (gt l i))) B g n c (sw l i j) := by
  unfold Rg.sw
  exact (h.set hi _).set hj _
theorem srd_one (a : Nat) (l : List Int) : Srd a (a + 1) l := fun p q p1 p2 p3 => by
  have e : p = q := by omega
  rw [e]
  exact Int.le_refl _
set_option maxRecDepth 100000 in
set_option maxHeartbeats 2000000 in
theorem ins121 (w : World) (B g n c : Nat) (l : List Int) (a b : Nat) (hD : Dr w B g n c l) (hab : a ≤ b) (hb : b ≤ n) (hn : n ≤ 1000000) :
    Calls Tryz.prog 98 #[.slice (some ⟨g, 0, none⟩) n c, .int .i64 (a : Int), .int .i64 (b : Int)] w fun e w' => e = .returned (.tuple #[]) ∧ ∃ l', Dr w' B g n c l' ∧ Pm a b l l' ∧ Srd a b l' ∧ Kp (fun k => k = g) w w' := by
  have mixed : Tryz.prog.follows .mixedOrders = true := by kernel_rfl
  have HD := hide hD
  have hbI : (b : Int) ≤ (n : Int) := by omega
  have hnI : (n : Int) ≤ 1000000 := by omega
  have ha0 : (0 : Int) ≤ (a : Int) := by omega
  have haI : (a : Int) ≤ (b : Int) := by omega
  clear hD
  go_enter Tryz.func98, Tryz.ntmps98
  go_wp2
  go_loopw [6] (fun iv wr => ∃ i : Nat, iv = .int .i64 (i : Int) ∧ a < i ∧ i ≤ n + 1 ∧ Hid (∃ l', Dr wr B g n c l' ∧ Pm a b l l' ∧ Srd a i l' ∧ Kp (fun k => k = g) w wr)) (fun iv _ => b - (intOf iv).toNat)
  case atStart => exact ⟨a + 1, by go_num, by omega, by omega, hide ⟨l, HD.out, Pm.refl _ _ _, srd_one a l, Kp.refl _ _⟩⟩
  case round =>
    obtain ⟨i, rfl, hai, hin, hI⟩ := hrel
    have hi0 : (0 : Int) ≤ (i : Int) := by omega
    obtain ⟨wl, ewl⟩ : ∃ wl : World, wl = wr := ⟨_, rfl⟩
    subst ewl
    by_cases hlt : i < b
    · have hltI : (i : Int) < (b : Int) := by omega
      go_wp2
      go_loopw [7] (fun jv wr => ∃ j : Nat, jv = .int .i64 (j : Int) ∧ a ≤ j ∧ j ≤ i ∧ Hid (∃ l', Dr wr B g n c l' ∧ Pm a b l l' ∧ Ins a i j l' ∧ Kp (fun k => k = g) w wr)) (fun jv _ => (intOf jv).toNat)
      case atStart =>
        obtain ⟨l', h1, h2, h3, h4⟩ := hI.out
        exact ⟨i, rfl, by omega, Nat.le_refl _, hide ⟨l', h1, h2, Ins.of_srd h3, h4⟩⟩
      case round =>
        obtain ⟨j, rfl, haj, hji, hJ⟩ := hrel
        have hj0 : (0 : Int) ≤ (j : Int) := by omega
        obtain ⟨l', h1, h2, h3, h4⟩ := hJ.out
        have hl' : l'.length = n := h1.len
        by_cases hc : a < j
        · have d1 : decide ((j : Int) > (a : Int)) = true := by simpa using hc
          have d1I : (j : Int) > (a : Int) := by omega
          have hjn : (j : Int) < (n : Int) := by omega
          have e1 : (0 : Int) ≤ (j : Int) - 1 := by omega
          have e2 : (j : Int) - 1 < (n : Int) := by omega
          have e3 : ((j : Int) - 1).toNat = j - 1 := by omega
          have e4 : (j : Int).toNat = j := by omega
          have e5 : IntKind.i64.wrap ((j : Int) - 1) = (j : Int) - 1 := by rw [IntKind.wrap_i64]; omega
          obtain ⟨y1, f1⟩ := h1.at_ (k := j) (by omega)
          obtain ⟨y2, f2⟩ := h1.at_ (k := j - 1) (by omega)
          have HJ := hide (And.intro h1 (And.intro h2 (And.intro h3 h4)))
          have e6 : ((j - 1 : Nat) : Int) = (j : Int) - 1 := by omega
          by_cases hls : gt l' j < gt l' (j - 1)
          · have d2 : decide (gt l' j < gt l' (j - 1)) = true := by simpa using hls
            have HN : Hid (Pm a b l (sw l' j (j - 1)) ∧ Ins a i (j - 1) (sw l' j (j - 1))) := hide ⟨h2.trans (Pm.sw l' (by omega) (by omega) (by omega) (by omega) (by omega) (by omega)), h3.step (by omega) hc hji hls⟩
            have HE := hide e6
            clear h1 h2 h3 h4 hls hJ e6
            go_wp2_with fail
            go_quiet (first | (go_at_call 104; exact Calls.quiet_of_same (less127 _ _ _)))
            obtain ⟨h1, h2, h3, h4⟩ := HJ.out
            have hW1 := h1.dn nq
            have kW : Kp Nu wr (wr.drewN nq) := kp_dn wr nq
            obtain ⟨W, hW⟩ : ∃ W, wr.drewN nq = W := ⟨_, rfl⟩
            rw [hW] at hW1 kW ⊢
            obtain ⟨y1, f1⟩ := hW1.at_ (k := j) (by omega)
            obtain ⟨y2, f2⟩ := hW1.at_ (k := j - 1) (by omega)
            have hsw := hW1.sw (i := j) (j := j - 1) (by omega) (by omega)
            have y3 : (W.setCell ⟨g, j, none⟩ (.int .u64 (gt l' (j - 1)))).cell? ⟨g, j - 1, none⟩ = some (.int .u64 (gt l' (j - 1))) := by
              rw [World.cell?_setCell_other _ _ _ _ (by intro h; simp at h <;> omega)]
              exact y2
            have f3 : (W.setCell ⟨g, j, none⟩ (.int .u64 (gt l' (j - 1)))).frozen? ⟨g, j - 1, none⟩ = false := ((hW1.set (k := j) (by omega) (gt l' (j - 1))).at_ (k := j - 1) (by omega)).2
            have H4 := hide (And.intro hsw (h4.andNu kW))
            clear h1 h2 h3 h4 hW1 kW hsw hW
            go_wp2_with fail
            go_region
            go_wp2
            obtain ⟨hsw, k4⟩ := H4.out
            exact ⟨⟨j - 1, by rw [HE.out], by omega, by omega, hide ⟨_, hsw.drew, HN.out.1, HN.out.2, ((k4.andSet _ _ (.inr rfl)).andSet _ _ (.inr rfl)).drew⟩⟩, by simp [intOf]; omega⟩
          · have d2 : decide (gt l' j < gt l' (j - 1)) = false := by simpa using hls
            have HN : Hid (Srd a (i + 1) l') := hide (h3.done haj hji (.inr (by omega)))
            clear h1 h2 h3 h4 hls hJ e6
            go_wp2_with fail
            go_quiet (first | (go_at_call 104; exact Calls.quiet_of_same (less127 _ _ _)))
            go_wp2
            obtain ⟨h1, h2, h3, h4⟩ := HJ.out
            exact ⟨⟨i + 1, by go_num, by omega, by omega, hide ⟨l', h1.dn _, h2, HN.out, h4.andNu (kp_dn wr _)⟩⟩, by simp [intOf]; omega⟩
        · have d1 : decide ((j : Int) > (a : Int)) = false := by simp; omega
          have HN : Hid (Srd a (i + 1) l') := hide (h3.done haj hji (.inl (by omega)))
          have HJ := hide (And.intro h1 (And.intro h2 (And.intro h3 h4)))
          clear h1 h2 h3 h4 hJ
          go_wp2_with fail
          go_quiet (fail)
          go_wp2
          obtain ⟨h1, h2, h3, h4⟩ := HJ.out
          exact ⟨⟨i + 1, by go_num, by omega, by omega, hide ⟨l', h1.dn _, h2, HN.out, h4.andNu (kp_dn wr _)⟩⟩, by simp [intOf]; omega⟩
    · have hge : ¬ (i : Int) < (b : Int) := by omega
      go_wp2
      go_end0
      obtain ⟨l', h1, h2, h3, h4⟩ := hI.out
      exact ⟨rfl, l', h1, h2, fun p q p1 p2 p3 => h3 p q p1 p2 (by omega), h4⟩
end Go.Proofs.YtbifmcadllilhaaGreat.Rg
namespace Go.Proofs.YtbifmcadllilhaaGreat.Rg
open Go.RowKit Go.Shelf Go.Sort
set_option linter.unusedVariables false
set_option maxHeartbeats 400000 in
theorem host58 (a : Int) (w : World) : Calls Tryz.prog 54 #[.int .u8 a] w fun e w' => e = .returned (.bool (decide (a < 16))) ∧ w' = w := by
  go_enter Tryz.func54, Tryz.ntmps54
  go_wp2
  go_ret
  exact ⟨rfl, rfl⟩
set_option maxRecDepth 100000 in
set_option maxHeartbeats 1000000 in
theorem noMove34 (w : World) (m : Mv) : Calls Tryz.prog 32 #[.agg #[.int .u8 m.f, .int .u8 m.t, .int .u64 m.lo, .int .u64 m.hi, .int .i64 m.n]] w fun e w' => Pn.Ans (¬ Mok m) e ∧ Kp Nu w w' := by
  have mixed : Tryz.prog.follows .mixedOrders = true := by kernel_rfl
  obtain ⟨w1, hw1⟩ : ∃ w1, w.alloc (.cells #[.int .u8 m.f, .int .u8 m.t, .int .u64 m.lo, .int .u64 m.hi, .int .i64 m.n] 41) = w1 := ⟨_, rfl⟩
  have kA : Kp Nu w w1 := by rw [← hw1]; exact Kp.alloc _ _ _
  have bA : w1.heap[w.heap.size]? = some (.cells #[.int .u8 m.f, .int .u8 m.t, .int .u64 m.lo, .int .u64 m.hi, .int .i64 m.n] 41 (0, 0)) := by rw [← hw1]; exact heap_alloc_new w _
  obtain ⟨y0, y1, y2, y3, y4⟩ := cell5 bA
  obtain ⟨f, t, lo, hi, n⟩ := m
  simp only at *
  have HK := hide kA
  clear kA bA
  have HM : Hid (Mok ⟨f, t, lo, hi, n⟩ ↔ lo ≤ hi ∧ f < 16 ∧ t < 16 ∧ f ≠ t) := hide Iff.rfl
  by_cases q1 : lo > hi
  · have d1 : decide (lo > hi) = true := by simpa using q1
    go_enter Tryz.func32, Tryz.ntmps32
    go_wp2_with (first | (go_at_call 54; refine (host58 _ _).mono ?_; rintro e w' ⟨rfl, hw'⟩; obtain rfl := hw'.symm))
    go_ret
    exact ⟨⟨true, rfl, by simp; rw [HM.out]; omega⟩, HK.out⟩
  have d1 : decide (lo > hi) = false := by simpa using q1
  by_cases q2 : f < 16
  · have d2 : decide (f < 16) = true := by simpa using q2
    by_cases q3 : t < 16
    · have d3 : decide (t < 16) = true := by simpa using q3
      by_cases q4 : f = t
      · have d4 : (f == t) = true := by simpa using q4
        have HQ := hide q4
        clear q4
        go_enter Tryz.func32, Tryz.ntmps32
        go_wp2_with (first | (go_at_call 54; refine (host58 _ _).mono ?_; rintro e w' ⟨rfl, hw'⟩; obtain rfl := hw'.symm))
        go_ret
        exact ⟨⟨true, rfl, by have := HQ.out; simp; rw [HM.out]; omega⟩, HK.out⟩
      · have d4 : (f == t) = false := by simpa using q4
        go_enter Tryz.func32, Tryz.ntmps32
        go_wp2_with (first | (go_at_call 54; refine (host58 _ _).mono ?_; rintro e w' ⟨rfl, hw'⟩; obtain rfl := hw'.symm))
        go_ret
        exact ⟨⟨false, rfl, by simp; rw [HM.out]; omega⟩, HK.out⟩
    · have d3 : decide (t < 16) = false := by simpa using q3
      go_enter Tryz.func32, Tryz.ntmps32
      go_wp2_with (first | (go_at_call 54; refine (host58 _ _).mono ?_; rintro e w' ⟨rfl, hw'⟩; obtain rfl := hw'.symm))
      go_ret
      exact ⟨⟨true, rfl, by simp; rw [HM.out]; omega⟩, HK.out⟩
  · have d2 : decide (f < 16) = false := by simpa using q2
    go_enter Tryz.func32, Tryz.ntmps32
    go_wp2_with (first | (go_at_call 54; refine (host58 _ _).mono ?_; rintro e w' ⟨rfl, hw'⟩; obtain rfl := hw'.symm))
    go_ret
    exact ⟨⟨true, rfl, by simp; rw [HM.out]; omega⟩, HK.out⟩
set_option maxRecDepth 100000 in
set_option maxHeartbeats 1000000 in
theorem index57 (w : World) (u : Value) (ms : List Mv) (hu : Mvs w u ms) (hl : ms.length ≤ 4096) : Calls Tryz.prog 53 #[u, .func (.func 32) #[] #[]] w fun e w' => (∃ i : Int, e = .returned (.int .i64 i) ∧ ((∃ m ∈ ms, ¬ Mok m) ↔ i ≥ 0)) ∧ Kp Nu w w' := by
  have mixed : Tryz.prog.follows .mixedOrders = true := by kernel_rfl
  obtain ⟨a1, c1, rfl, hdm⟩ := id hu
  clear hdm
  obtain ⟨N, eN⟩ : ∃ N, ms.length = N := ⟨_, rfl⟩
  have HU := hide (And.intro hu eN)
  rw [eN] at hl ⊢
  have hNI : (N : Int) ≤ 4096 := by omega
  clear hu eN
  go_enter Tryz.func53, Tryz.ntmps53
  go_wp2
  go_loopw [8] (fun iv wr => ∃ i : Nat, iv = .int .i64 (i : Int) ∧ i ≤ N ∧ Hid ((∀ j m, j < i → ms[j]? = some m → Mok m) ∧ Kp Nu w wr)) (fun iv _ => N - (intOf iv).toNat)
  case atStart => exact ⟨0, rfl, Nat.zero_le _, hide ⟨fun j m hj => by omega, Kp.refl _ _⟩⟩
  case round =>
    obtain ⟨i, rfl, hi1, hI⟩ := hrel
    have hi0 : (0 : Int) ≤ (i : Int) := by omega
    obtain ⟨hok, hkp⟩ := hI.out
    by_cases hlt : i < N
    · have hltI : (i : Int) < (N : Int) := by omega
      obtain ⟨m, hm⟩ : ∃ m, ms[i]? = some m := ⟨_, List.getElem?_eq_getElem (by rw [HU.out.2]; exact hlt)⟩
      have hms : Mvs wr (.slice a1 N c1) ms := by have h := HU.out.1; rw [HU.out.2] at h; exact h.nu hkp
      obtain ⟨b1, o1, rfl, hat⟩ := hms.at_ hm
      obtain ⟨x0, x1, x2, x3, x4, hf⟩ := hat
      have eti : (i : Int).toNat = i := by omega
      have NM := noMove34 wr m
      have HQ := hide (And.intro hok (And.intro hkp hm))
      clear hI hok hkp hm hms hf
      go_wp2_with fail
      refine NM.mono ?_; rintro e w2 ⟨⟨bo, rfl, hbo⟩, hk2⟩
      have HB := hide (And.intro hbo hk2)
      clear NM hbo hk2
      cases bo with
      | true =>
        go_wp2
        go_ret
        obtain ⟨hok, hkp, hm⟩ := HQ.out
        exact ⟨⟨(i : Int), rfl, ⟨fun _ => by omega, fun _ => ⟨m, List.mem_of_getElem? hm, HB.out.1.1 (by first | trivial | rfl)⟩⟩⟩, hkp.andNu HB.out.2⟩
      | false =>
        go_wp2
        obtain ⟨hok, hkp, hm⟩ := HQ.out
        refine ⟨⟨i + 1, by go_num, by omega, hide ⟨fun j m' hj hm' => ?_, hkp.andNu HB.out.2⟩⟩, by simp [intOf]; omega⟩
        by_cases e : j = i
        · subst e
          rw [hm] at hm'
          cases hm'
          exact Classical.byContradiction (fun h => by have := HB.out.1.2 h; cases this)
        · exact hok j m' (by omega) hm'
    · have hltI : ¬ (i : Int) < (N : Int) := by omega
      have HQ := hide (And.intro hok hkp)
      clear hI hok hkp
      go_wp2
      go_ret
      obtain ⟨hok, hkp⟩ := HQ.out
      refine ⟨⟨-1, rfl, ⟨?_, fun h => by omega⟩⟩, hkp⟩
      rintro ⟨m, hm, hn⟩
      obtain ⟨j, hj⟩ := List.getElem?_of_mem hm
      have hjl := (List.getElem?_eq_some_iff.1 hj).1
      exact absurd (hok j m (by have := HU.out.2; omega) hj) hn
set_option maxRecDepth 100000 in
set_option maxHeartbeats 1000000 in
theorem contains33 (w : World) (u : Value) (ms : List Mv) (hu : Mvs w u ms) (hl : ms.length ≤ 4096) : Calls Tryz.prog 31 #[u, .func (.func 32) #[] #[]] w fun e w' => Pn.Ans (∃ m ∈ ms, ¬ Mok m) e ∧ Kp Nu w w' := by
  have IX := index57 w u ms hu hl
  obtain ⟨a1, c1, rfl, hdm⟩ := id hu
  clear hdm hu
  generalize ms.length = N at *
  go_enter Tryz.func31, Tryz.ntmps31
  go_wp2_with fail
  refine IX.mono ?_; rintro e w2 ⟨⟨i, rfl, hi⟩, hk⟩
  have HI := hide (And.intro hi hk)
  clear IX hi hk
  by_cases c : i ≥ 0
  · have d : decide (i ≥ 0) = true := by simpa using c
    go_wp2
    go_ret
    exact ⟨⟨true, rfl, by rw [HI.out.1]; simp; exact c⟩, HI.out.2⟩
  · have d : decide (i ≥ 0) = false := by simpa using c
    go_wp2
    go_ret
    exact ⟨⟨false, rfl, by rw [HI.out.1]; simp; omega⟩, HI.out.2⟩
end Go.Proofs.YtbifmcadllilhaaGreat.Rg
namespace Go.Proofs.YtbifmcadllilhaaGreat.Rg
open Go.RowKit Go.Shelf Go.Sort
set_option linter.unusedVariables false
/-- all that an exchange asks for -/
structure Swf (w : World) (B g n c : Nat) (l : List Int) (i j : Nat) : Prop where
  yi : w.cell? ⟨g, i, none⟩ = some (.int .u64 (gt l i))
  fi : w.frozen? ⟨g, i, none⟩ = false
  yj : w.cell? ⟨g, j, none⟩ = some (.int .u64 (gt l j))
  fj : w.frozen? ⟨g, j, none⟩ = false
  zj : (w.setCell ⟨g, i, none⟩ (.int .u64 (gt l j))).cell? ⟨g, j, none⟩ = some (.int .u64 (gt l j))
  gj : (w.setCell ⟨g, i, none⟩ (.int .u64 (gt l j))).frozen? ⟨g, j, none⟩ = false
  dr : Dr ((w.setCell ⟨g, i, none⟩ (.int .u64 (gt l j))).setCell ⟨g, j, none⟩ (.int .u64 (gt l i))) B g n c (sw l i j)
theorem Dr.swf {w : World} {B g n c : Nat} {l : List Int} (h : Dr w B g n c l) {i j : Nat} (hi : i < n) (hj : j < n) : Swf w B g n c l i j := by
  obtain ⟨y1, f1⟩ := h.at_ hi
  obtain ⟨y2, f2⟩ := h.at_ hj
  have h2 := (h.set hi (gt l j)).at_ hj
  refine ⟨y1, f1, y2, f2, ?_, h2.2, h.sw hi hj⟩
  rw [h2.1, gt_set l _ (by rw [h.len]; exact hi)]
  by_cases e : j = i
  · rw [if_pos e]
  · rw [if_neg e]
set_option maxRecDepth 100000 in
set_option maxHeartbeats 2000000 in
theorem rev125 (w : World) (B g n c : Nat) (l : List Int) (a b : Nat) (hD : Dr w B g n c l) (hab : a < b) (hb : b ≤ n) (hn : n ≤ 1000000) :
    Calls Tryz.prog 102 #[.slice (some ⟨g, 0, none⟩) n c, .int .i64 (a : Int), .int .i64 (b : Int)] w fun e w' => e = .returned (.tuple #[]) ∧ ∃ l', Dr w' B g n c l' ∧ Pm a b l l' ∧ Kp (fun k => k = g) w w' := by
  have mixed : Tryz.prog.follows .mixedOrders = true := by kernel_rfl
  have HD := hide hD
  have hbI : (b : Int) ≤ (n : Int) := by omega
  have hnI : (n : Int) ≤ 1000000 := by omega
  have ha0 : (0 : Int) ≤ (a : Int) := by omega
  have haI : (a : Int) < (b : Int) := by omega
  clear hD
  go_enter Tryz.func102, Tryz.ntmps102
  go_wp2
  go_loopw [6, 7] (fun iv jv wr => ∃ i j : Nat, iv = .int .i64 (i : Int) ∧ jv = .int .i64 (j : Int) ∧ a ≤ i ∧ a ≤ j ∧ j < b ∧ i ≤ b ∧ Hid (∃ l', Dr wr B g n c l' ∧ Pm a b l l' ∧ Kp (fun k => k = g) w wr)) (fun _ jv _ => (intOf jv).toNat)
  case atStart => exact ⟨a, b - 1, rfl, by rw [show ((b - 1 : Nat) : Int) = (b : Int) - 1 by omega], by omega, by omega, by omega, by omega, hide ⟨l, HD.out, Pm.refl _ _ _, Kp.refl _ _⟩⟩
  case round =>
    obtain ⟨i, j, rfl, rfl, hai, haj, hjb, hib, hI⟩ := hrel
    have hi0 : (0 : Int) ≤ (i : Int) := by omega
    have hj0 : (0 : Int) ≤ (j : Int) := by omega
    by_cases hlt : i < j
    · have hltI : (i : Int) < (j : Int) := by omega
      have eti : (i : Int).toNat = i := by omega
      have etj : (j : Int).toNat = j := by omega
      have hin : (i : Int) < (n : Int) := by omega
      have hjn : (j : Int) < (n : Int) := by omega
      obtain ⟨l', h1, h2, h4⟩ := hI.out
      obtain ⟨y1, f1, y2, f2, z1, g1, hsw⟩ := h1.swf (i := i) (j := j) (by omega) (by omega)
      have H := hide (And.intro hsw (And.intro (h2.trans (Pm.sw l' (i := i) (j := j) (by rw [h1.len]; omega) (by rw [h1.len]; omega) hai (by omega) haj hjb)) h4))
      clear h1 h2 h4 hsw hI
      go_wp2_with fail
      go_region
      go_wp2
      obtain ⟨hsw, h2, k4⟩ := H.out
      exact ⟨⟨i + 1, j - 1, by go_num, by rw [show ((j - 1 : Nat) : Int) = (j : Int) - 1 by omega], by omega, by omega, by omega, by omega, hide ⟨_, hsw.drew, h2, ((k4.andSet _ _ (.inr rfl)).andSet _ _ (.inr rfl)).drew⟩⟩, by simp [intOf]; omega⟩
    · have hge : ¬ (i : Int) < (j : Int) := by omega
      go_wp2
      go_end0
      obtain ⟨l', h1, h2, h4⟩ := hI.out
      exact ⟨rfl, l', h1, h2, h4⟩
end Go.Proofs.YtbifmcadllilhaaGreat.Rg
