import Derived.Test.YtbifmcadllilhaaGreatQsF
namespace Go.Proofs.YtbifmcadllilhaaGreat.Rg
open Go.RowKit Go.Shelf Go.Sort
set_option linter.unusedVariables false
theorem Hp.root {hi f : Nat} {l : List Int} (h : Hp 0 hi f l) : ∀ k, k < hi → gt l (f + k) ≤ gt l f := by
  intro k
  induction k using Nat.strongRecOn with
  | ind k ih =>
    intro hk
    by_cases e : k = 0
    · rw [e]; exact Int.le_refl _
    · have h1 := h k (by omega) hk (by omega)
      have h2 := ih ((k - 1) / 2) (by omega) (by omega)
      omega
theorem hp_start (hi f : Nat) (l : List Int) : Hp ((hi - 1) / 2 + 1) hi f l := fun q q0 q1 q2 => by omega
/-- the second half of heapSort: a heap of m, behind it what is sorted -/
structure Hs (m hi f : Nat) (l : List Int) : Prop where
  hp : Hp 0 m f l
  tl : ∀ q q', m ≤ q → q ≤ q' → q' < hi → gt l (f + q) ≤ gt l (f + q')
  le : ∀ k q, k < m → m ≤ q → q < hi → gt l (f + k) ≤ gt l (f + q)
theorem Hs.start {hi f : Nat} {l : List Int} (h : Hp 0 hi f l) : Hs hi hi f l := ⟨h, fun q q' h1 h2 h3 => by omega, fun k q h1 h2 h3 => by omega⟩
theorem Hs.fin {hi f : Nat} {l : List Int} (h : Hs 0 hi f l) : Srd f (f + hi) l := fun i j i1 i2 i3 => by
  have := h.tl (i - f) (j - f) (by omega) (by omega) (by omega)
  rw [show f + (i - f) = i by omega, show f + (j - f) = j by omega] at this
  exact this
theorem Hs.pre {m hi f : Nat} {l : List Int} (h : Hs (m + 1) hi f l) (hl : f + hi ≤ l.length) (hm : m < hi) : Hp (0 + 1) m f (sw l f (f + m)) := fun q q0 q1 q2 => by
  have g : ∀ k, gt (sw l f (f + m)) k = if k = f + m then gt l f else if k = f then gt l (f + m) else gt l k := fun k => sw_get l (by omega) (by omega)
  rw [g, g, if_neg (by omega), if_neg (by omega), if_neg (by omega), if_neg (by omega)]
  exact h.hp q q0 (by omega) (by omega)
theorem Hs.step {m hi f : Nat} {l l2 : List Int} (h : Hs (m + 1) hi f l) (hl : f + hi ≤ l.length) (hm : m < hi) (hp : Pm f (f + m) (sw l f (f + m)) l2) (h2 : Hp 0 m f l2) : Hs m hi f l2 := by
  have g : ∀ k, gt (sw l f (f + m)) k = if k = f + m then gt l f else if k = f then gt l (f + m) else gt l k := fun k => sw_get l (by omega) (by omega)
  have gm : gt l2 (f + m) = gt l f := by rw [hp.out _ (.inr (by omega)), g, if_pos rfl]
  have gq : ∀ q, m < q → gt l2 (f + q) = gt l (f + q) := fun q hq => by rw [hp.out _ (.inr (by omega)), g, if_neg (by omega), if_neg (by omega)]
  have gk : ∀ k, k < m → ∃ i, i < m + 1 ∧ gt l2 (f + k) = gt l (f + i) := fun k hk => by
    obtain ⟨i, i1, i2, e⟩ := hp.src (by omega) (by rw [sw_len]; omega) (k := f + k) (by omega) (by omega)
    rw [g, if_neg (by omega)] at e
    by_cases e2 : i = f
    · rw [if_pos e2] at e; exact ⟨m, by omega, e⟩
    · rw [if_neg e2] at e; exact ⟨i - f, by omega, by rw [e]; congr 1; omega⟩
  have r0 := h.hp.root
  refine ⟨h2, fun q q' q1 q2 q3 => ?_, fun k q k1 q1 q2 => ?_⟩
  · by_cases e : q = m
    · by_cases e2 : q' = m
      · rw [e, e2]; exact Int.le_refl _
      · rw [e, gm, gq q' (by omega)]
        exact h.le 0 q' (by omega) (by omega) q3
    · rw [gq q (by omega), gq q' (by omega)]
      exact h.tl q q' (by omega) q2 q3
  · obtain ⟨i, i1, e⟩ := gk k k1
    rw [e]
    by_cases e2 : q = m
    · rw [e2, gm]; exact r0 i i1
    · rw [gq q (by omega)]; exact h.le i q i1 (by omega) q2
set_option maxRecDepth 100000 in
set_option maxHeartbeats 4000000 in
theorem heap122 (w : World) (B g n c : Nat) (l : List Int) (a b : Nat) (hD : Dr w B g n c l) (hab : a < b) (hb : b ≤ n) (hn : n ≤ 1000000) :
    Calls Tryz.prog 99 #[.slice (some ⟨g, 0, none⟩) n c, .int .i64 (a : Int), .int .i64 (b : Int)] w fun e w' => e = .returned (.tuple #[]) ∧ ∃ l', Dr w' B g n c l' ∧ Pm a b l l' ∧ Srd a b l' ∧ Kp (fun k => k = g) w w' := by
  have mixed : Tryz.prog.follows .mixedOrders = true := by kernel_rfl
  have HD := hide hD
  obtain ⟨h, hh⟩ : ∃ h : Nat, a + h = b := ⟨b - a, by omega⟩
  have hh0 : 0 < h := by omega
  have ebI : (b : Int) - (a : Int) = (h : Int) := by omega
  have ebW : IntKind.i64.wrap ((b : Int) - (a : Int)) = (h : Int) := by rw [IntKind.wrap_i64]; omega
  have hnI : (n : Int) ≤ 1000000 := by omega
  have ha0 : (0 : Int) ≤ (a : Int) := by omega
  have eh1 : (h : Int) - 1 = ((h - 1 : Nat) : Int) := by omega
  have eq1 : Int.tdiv ((h - 1 : Nat) : Int) 2 = (((h - 1) / 2 : Nat) : Int) := by rw [Int.tdiv_eq_ediv_of_nonneg (by omega)]; omega
  clear hD
  go_enter Tryz.func99, Tryz.ntmps99
  go_wp2
  go_loopw [9] (fun iv wr => ∃ m : Nat, iv = .int .i64 ((m : Int) - 1) ∧ m ≤ h ∧ Hid (∃ l', Dr wr B g n c l' ∧ Pm a b l l' ∧ Hp m h a l' ∧ Kp (fun k => k = g) w wr)) (fun iv _ => (intOf iv + 1).toNat)
  case atStart => exact ⟨(h - 1) / 2 + 1, by go_num, by omega, hide ⟨l, HD.out, Pm.refl _ _ _, hp_start _ _ _, Kp.refl _ _⟩⟩
  case round =>
    obtain ⟨m, rfl, hmh, hI⟩ := hrel
    by_cases hm : m = 0
    · subst hm
      have d1 : decide (((0 : Nat) : Int) - 1 ≥ 0) = false := by simp
      have d1I : ¬ ((0 : Nat) : Int) - 1 ≥ 0 := by omega
      obtain ⟨W0, eW0⟩ : ∃ W0, wr = W0 := ⟨_, rfl⟩
      subst eW0
      have eh2 : IntKind.i64.wrap ((h : Int) - 1) = (h : Int) - 1 := by rw [IntKind.wrap_i64]; omega
      go_wp2
      go_loopw [10] (fun iv wr => ∃ m : Nat, iv = .int .i64 ((m : Int) - 1) ∧ m ≤ h ∧ Hid (∃ l', Dr wr B g n c l' ∧ Pm a b l l' ∧ Hs m h a l' ∧ Kp (fun k => k = g) w wr)) (fun iv _ => (intOf iv + 1).toNat)
      case atStart =>
        obtain ⟨l', h1, h2, h3, h4⟩ := hI.out
        exact ⟨h, by rw [eh1], Nat.le_refl _, hide ⟨l', h1, h2, Hs.start h3, h4⟩⟩
      case round =>
        obtain ⟨m, rfl, hmh, hJ⟩ := hrel
        by_cases hm : m = 0
        · subst hm
          go_wp2
          go_end0
          obtain ⟨l', h1, h2, h3, h4⟩ := hJ.out
          refine ⟨rfl, l', h1, h2, ?_, h4⟩
          rw [← hh]
          exact h3.fin
        · obtain ⟨k, rfl⟩ : ∃ k, m = k + 1 := ⟨m - 1, by omega⟩
          have ek : ((k + 1 : Nat) : Int) - 1 = (k : Int) := by omega
          obtain ⟨l', h1, h2, h3, h4⟩ := hJ.out
          have hl' := h1.len
          rw [ek]
          have hk0 : (k : Int) ≥ 0 := by omega
          have e0 : (a : Int).toNat = a := by omega
          have e1 : (a : Int) < (n : Int) := by omega
          have e2 : (0 : Int) ≤ (a : Int) + (k : Int) := by omega
          have e3 : (a : Int) + (k : Int) < (n : Int) := by omega
          have e4 : ((a : Int) + (k : Int)).toNat = a + k := by omega
          have e5 : IntKind.i64.wrap ((a : Int) + (k : Int)) = (a : Int) + (k : Int) := by rw [IntKind.wrap_i64]; omega
          obtain ⟨y1, f1, y2, f2, z1, g1, hsw⟩ := h1.swf (i := a) (j := a + k) (by omega) (by omega)
          have HN := hide (And.intro hsw (And.intro h2 (And.intro h3 h4)))
          have HP : Hid (Hp (0 + 1) k a (sw l' a (a + k))) := hide (h3.pre (by omega) (by omega))
          clear h1 h2 h3 h4 hsw hJ
          go_wp2_with fail
          go_region
          obtain ⟨hsw, h2, h3, h4⟩ := HN.out
          have S := sift136 _ B g n c _ 0 k a hsw.drew (by omega) (by omega) hn HP.out
          have HJ := hide (And.intro h2 (And.intro h3 ((h4.andSet ⟨g, a, none⟩ (.int .u64 (gt l' (a + k))) (.inr rfl)).andSet ⟨g, a + k, none⟩ (.int .u64 (gt l' a)) (.inr rfl)).drew))
          clear hsw h2 h3 h4 y1 f1 y2 f2 z1 g1
          go_wp2_with fail
          refine S.mono ?_; rintro e w1 ⟨rfl, l2, q1, q2, q3, q4⟩
          go_wp2
          obtain ⟨h2, h3, h4⟩ := HJ.out
          exact ⟨⟨k, by go_num, by omega, hide ⟨l2, q1, (h2.trans (Pm.sw l' (by omega) (by omega) (by omega) (by omega) (by omega) (by omega))).trans (q2.mono (Nat.le_refl _) (by omega)), h3.step (by omega) (by omega) q2 q3, h4.trans q4 (fun _ _ e => e)⟩⟩, by simp [intOf]⟩
    · obtain ⟨k, rfl⟩ : ∃ k, m = k + 1 := ⟨m - 1, by omega⟩
      have ek : ((k + 1 : Nat) : Int) - 1 = (k : Int) := by omega
      rw [ek]
      have ek0 : (k : Int) ≥ 0 := by omega
      obtain ⟨l', h1, h2, h3, h4⟩ := hI.out
      have hl' := h1.len
      have S := sift136 wr B g n c l' k h a h1 (by omega) (by omega) hn h3
      have HJ := hide (And.intro h2 h4)
      clear h1 h2 h3 h4 hI
      go_wp2_with fail
      refine S.mono ?_; rintro e w1 ⟨rfl, l2, q1, q2, q3, q4⟩
      go_wp2
      obtain ⟨h2, h4⟩ := HJ.out
      exact ⟨⟨k, by go_num, by omega, hide ⟨l2, q1, h2.trans (q2.mono (Nat.le_refl _) (by omega)), q3, h4.trans q4 (fun _ _ e => e)⟩⟩, by simp [intOf]⟩
end Go.Proofs.YtbifmcadllilhaaGreat.Rg
namespace Go.Proofs.YtbifmcadllilhaaGreat.Rg
open Go.RowKit Go.Shelf Go.Sort
set_option linter.unusedVariables false
/-- the row and the box that counts -/
structure Dx (w : World) (B g n c : Nat) (l : List Int) (sb s : Nat) : Prop where
  dr : Dr w B g n c l
  ne : g ≠ sb
  cell : w.cell? ⟨sb, 0, none⟩ = some (.int .i64 (s : Int))
  fz : w.frozen? ⟨sb, 0, none⟩ = false
theorem Dr.keep {w w' : World} {B g n c : Nat} {l : List Int} (h : Dr w B g n c l) {S : Nat → Prop} (k : Kp S w w') (hn : ¬ S g) : Dr w' B g n c l := ⟨own_keep h.own (fun g' e => k.block g' (own_lt h.own e) (fun h' => hn (by cases e; exact h'))), h.len⟩
theorem Dx.set {w : World} {B g n c : Nat} {l : List Int} {sb s : Nat} (h : Dx w B g n c l sb s) (s' : Nat) : Dx (w.setCell ⟨sb, 0, none⟩ (.int .i64 (s' : Int))) B g n c l sb s' :=
  ⟨h.dr.keep (Kp.setCell w ⟨sb, 0, none⟩ _) h.ne, h.ne, World.cell?_setCell_same _ _ _ h.cell, by rw [World.frozen?_setCell]; exact h.fz⟩
theorem Dx.drew {w : World} {B g n c : Nat} {l : List Int} {sb s : Nat} (h : Dx w B g n c l sb s) : Dx w.drew B g n c l sb s := ⟨h.dr.drew, h.ne, h.cell, h.fz⟩
theorem Dx.dn {w : World} {B g n c : Nat} {l : List Int} {sb s : Nat} (h : Dx w B g n c l sb s) (q : Nat) : Dx (w.drewN q) B g n c l sb s := ⟨h.dr.dn q, h.ne, by have := h.cell; simpa using this, by have := h.fz; simpa using this⟩
set_option maxRecDepth 100000 in
set_option maxHeartbeats 2000000 in
theorem order141 (w : World) (B g n c : Nat) (l : List Int) (sb s a b : Nat) (hD : Dx w B g n c l sb s) (ha : a < n) (hb : b < n) (hn : n ≤ 1000000) (hs : s ≤ 100) :
    Calls Tryz.prog 126 #[.slice (some ⟨g, 0, none⟩) n c, .int .i64 (a : Int), .int .i64 (b : Int), .pointer (some ⟨sb, 0, none⟩)] w fun e w' => ∃ x y s' : Nat, e = .returned (.tuple #[.int .i64 (x : Int), .int .i64 (y : Int)]) ∧ (x = a ∧ y = b ∨ x = b ∧ y = a) ∧ s' ≤ s + 1 ∧ Dx w' B g n c l sb s' ∧ Kp (fun k => k = sb) w w' := by
  have mixed : Tryz.prog.follows .mixedOrders = true := by kernel_rfl
  have a0 : (0 : Int) ≤ (a : Int) := by omega
  have b0 : (0 : Int) ≤ (b : Int) := by omega
  have aI : (a : Int) < (n : Int) := by omega
  have bI : (b : Int) < (n : Int) := by omega
  have ea : (a : Int).toNat = a := by omega
  have eb : (b : Int).toNat = b := by omega
  have ew : IntKind.i64.wrap ((s : Int) + 1) = (s : Int) + 1 := by rw [IntKind.wrap_i64]; omega
  obtain ⟨y1, f1⟩ := hD.dr.at_ (k := a) ha
  obtain ⟨y2, f2⟩ := hD.dr.at_ (k := b) hb
  have HD := hide hD
  clear hD
  by_cases hl : gt l b < gt l a
  · have d1 : decide (gt l b < gt l a) = true := by simpa using hl
    go_enter Tryz.func126, Tryz.ntmps126
    go_wp2_with fail
    go_quiet (first | (go_at_call 104; exact Calls.quiet_of_same (less127 _ _ _)))
    have h1 := HD.out.dn nq
    have k1 : Kp (fun k => k = sb) w (w.drewN nq) := (Kp.refl _ w).andNu (kp_dn w nq)
    obtain ⟨W, hW⟩ : ∃ W, w.drewN nq = W := ⟨_, rfl⟩
    rw [hW] at h1 k1 ⊢
    have hc := h1.cell
    have hf := h1.fz
    have H1 := hide (And.intro h1 k1)
    clear h1 k1 hW y1 f1 y2 f2
    go_wp2
    go_ret2
    obtain ⟨h1, k1⟩ := H1.out
    have h2 := h1.set (s + 1)
    have k2 := k1.andSet ⟨sb, 0, none⟩ (.int .i64 ((s + 1 : Nat) : Int)) (.inr rfl)
    rw [show ((s + 1 : Nat) : Int) = (s : Int) + 1 by omega] at h2 k2
    exact ⟨b, a, s + 1, rfl, .inr ⟨rfl, rfl⟩, Nat.le_refl _, h2, k2⟩
  · have d1 : decide (gt l b < gt l a) = false := by simpa using hl
    go_enter Tryz.func126, Tryz.ntmps126
    go_wp2_with fail
    go_quiet (first | (go_at_call 104; exact Calls.quiet_of_same (less127 _ _ _)))
    have h1 := HD.out.dn nq
    have k1 : Kp (fun k => k = sb) w (w.drewN nq) := (Kp.refl _ w).andNu (kp_dn w nq)
    have H1 := hide (And.intro h1 k1)
    clear h1 k1 y1 f1 y2 f2
    go_wp2
    go_ret2
    obtain ⟨h1, k1⟩ := H1.out
    exact ⟨a, b, s, rfl, .inl ⟨rfl, rfl⟩, by omega, h1, k1⟩
set_option maxRecDepth 100000 in
set_option maxHeartbeats 2000000 in
theorem median138 (w : World) (B g n c : Nat) (l : List Int) (sb s i j k : Nat) (hD : Dx w B g n c l sb s) (hi : i < n) (hj : j < n) (hk : k < n) (hn : n ≤ 1000000) (hs : s ≤ 90) :
    Calls Tryz.prog 121 #[.slice (some ⟨g, 0, none⟩) n c, .int .i64 (i : Int), .int .i64 (j : Int), .int .i64 (k : Int), .pointer (some ⟨sb, 0, none⟩)] w fun e w' => ∃ x s' : Nat, e = .returned (.int .i64 (x : Int)) ∧ (x = i ∨ x = j ∨ x = k) ∧ s' ≤ s + 3 ∧ Dx w' B g n c l sb s' ∧ Kp (fun k => k = sb) w w' := by
  have mixed : Tryz.prog.follows .mixedOrders = true := by kernel_rfl
  have O1 := order141 w B g n c l sb s i j hD hi hj hn (by omega)
  clear hD
  go_enter Tryz.func121, Tryz.ntmps121
  go_wp2_with fail
  refine O1.mono ?_; rintro e w1 ⟨x1, y1, s1, rfl, h1, hs1, hD1, k1⟩
  have O2 := order141 w1 B g n c l sb s1 y1 k hD1 (by omega) hk hn (by omega)
  clear hD1 O1
  go_wp2_with fail
  refine O2.mono ?_; rintro e w2 ⟨x2, y2, s2, rfl, h2, hs2, hD2, k2⟩
  have O3 := order141 w2 B g n c l sb s2 x1 x2 hD2 (by omega) (by omega) hn (by omega)
  clear hD2 O2
  go_wp2_with fail
  refine O3.mono ?_; rintro e w3 ⟨x3, y3, s3, rfl, h3, hs3, hD3, k3⟩
  clear O3
  go_wp2
  go_ret
  exact ⟨y3, s3, rfl, by omega, by omega, hD3, (k1.trans k2 (fun _ _ e => e)).trans k3 (fun _ _ e => e)⟩
set_option maxRecDepth 100000 in
set_option maxHeartbeats 2000000 in
theorem medAdj137 (w : World) (B g n c : Nat) (l : List Int) (sb s i : Nat) (hD : Dx w B g n c l sb s) (hi0 : 0 < i) (hi : i + 1 < n) (hn : n ≤ 1000000) (hs : s ≤ 90) :
    Calls Tryz.prog 120 #[.slice (some ⟨g, 0, none⟩) n c, .int .i64 (i : Int), .pointer (some ⟨sb, 0, none⟩)] w fun e w' => ∃ x s' : Nat, e = .returned (.int .i64 (x : Int)) ∧ i ≤ x + 1 ∧ x ≤ i + 1 ∧ s' ≤ s + 3 ∧ Dx w' B g n c l sb s' ∧ Kp (fun k => k = sb) w w' := by
  have mixed : Tryz.prog.follows .mixedOrders = true := by kernel_rfl
  have M := median138 w B g n c l sb s (i - 1) i (i + 1) hD (by omega) (by omega) (by omega) hn hs
  have e1 : ((i - 1 : Nat) : Int) = (i : Int) - 1 := by omega
  have e2 : ((i + 1 : Nat) : Int) = (i : Int) + 1 := by omega
  rw [e1, e2] at M
  clear hD e1 e2
  have v1 : IntKind.i64.wrap ((i : Int) - 1) = (i : Int) - 1 := by rw [IntKind.wrap_i64]; omega
  have v2 : IntKind.i64.wrap ((i : Int) + 1) = (i : Int) + 1 := by rw [IntKind.wrap_i64]; omega
  go_enter Tryz.func120, Tryz.ntmps120
  go_wp2_with fail
  refine M.mono ?_; rintro e w1 ⟨x, s', rfl, h1, hs1, hD1, k1⟩
  go_wp2
  go_ret
  exact ⟨x, s', rfl, by omega, by omega, hs1, hD1, k1⟩
end Go.Proofs.YtbifmcadllilhaaGreat.Rg
namespace Go.Proofs.YtbifmcadllilhaaGreat.Rg
open Go.RowKit Go.Shelf Go.Sort
set_option linter.unusedVariables false
theorem Dx.new {w : World} {B g n c : Nat} {l : List Int} (h : Dr w B g n c l) : Dx (w.alloc (.cells #[.int .i64 0] 3)) B g n c l w.heap.size 0 :=
  ⟨h.nu (Kp.alloc _ _ _), by have := own_lt h.own (g := g) rfl; omega, by simp [go_sem], by simp [go_sem]⟩
theorem Kp.box {w w' : World} {o : Obj} (k : Kp (fun k => k = w.heap.size) (w.alloc o) w') : Kp Nu w w' := (Kp.alloc w o Nu).trans k (fun i hi e => by omega)
set_option maxRecDepth 100000 in
set_option maxHeartbeats 2000000 in
theorem choose124 (w : World) (B g n c : Nat) (l : List Int) (a b : Nat) (hD : Dr w B g n c l) (hab : a + 13 ≤ b) (hb : b ≤ n) (hn : n ≤ 1000000) :
    Calls Tryz.prog 101 #[.slice (some ⟨g, 0, none⟩) n c, .int .i64 (a : Int), .int .i64 (b : Int)] w fun e w' => ∃ p h : Nat, e = .returned (.tuple #[.int .i64 (p : Int), .int .i64 (h : Int)]) ∧ a ≤ p ∧ p < b ∧ h ≤ 2 ∧ Dr w' B g n c l ∧ Kp Nu w w' := by
  have mixed : Tryz.prog.follows .mixedOrders = true := by kernel_rfl
  obtain ⟨m, hm⟩ : ∃ m : Nat, a + m = b := ⟨b - a, by omega⟩
  have ebI : (b : Int) - (a : Int) = (m : Int) := by omega
  have ebW : IntKind.i64.wrap ((b : Int) - (a : Int)) = (m : Int) := by rw [IntKind.wrap_i64]; omega
  obtain ⟨L, hL⟩ : ∃ L : Nat, m / 4 = L := ⟨_, rfl⟩
  have hL3 : 3 ≤ L := by omega
  have hLm : 4 * L ≤ m := by omega
  have hm8 : (m : Int) ≥ 8 := by omega
  have edL : Int.tdiv (m : Int) 4 = (L : Int) := by rw [Int.tdiv_eq_ediv_of_nonneg (by omega)]; omega
  have edL2 : (m : Int) / 4 = (L : Int) := by omega
  have v1 : IntKind.i64.wrap ((L : Int) * 1) = (L : Int) := by rw [IntKind.wrap_i64]; omega
  have v2 : IntKind.i64.wrap ((L : Int) * 2) = (L : Int) * 2 := by rw [IntKind.wrap_i64]; omega
  have v3 : IntKind.i64.wrap ((L : Int) * 3) = (L : Int) * 3 := by rw [IntKind.wrap_i64]; omega
  obtain ⟨i, hi⟩ : ∃ i : Nat, i = a + L := ⟨_, rfl⟩
  obtain ⟨j, hj⟩ : ∃ j : Nat, j = a + L * 2 := ⟨_, rfl⟩
  obtain ⟨k, hk⟩ : ∃ k : Nat, k = a + L * 3 := ⟨_, rfl⟩
  have u1 : IntKind.i64.wrap ((a : Int) + (L : Int)) = (i : Int) := by rw [IntKind.wrap_i64]; omega
  have u2 : IntKind.i64.wrap ((a : Int) + (L : Int) * 2) = (j : Int) := by rw [IntKind.wrap_i64]; omega
  have u3 : IntKind.i64.wrap ((a : Int) + (L : Int) * 3) = (k : Int) := by rw [IntKind.wrap_i64]; omega
  have t1 : (a : Int) + (L : Int) = (i : Int) := by omega
  have t2 : (a : Int) + (L : Int) * 2 = (j : Int) := by omega
  have t3 : (a : Int) + (L : Int) * 3 = (k : Int) := by omega
  have HD := hide hD
  have hgs : g < w.heap.size := own_lt hD.own rfl
  have HM := hide (And.intro hm (And.intro hi (And.intro hj hk)))
  clear hD hm hi hj hk
  by_cases h50 : 50 ≤ m
  · have h50I : (m : Int) ≥ 50 := by omega
    go_enter Tryz.func101, Tryz.ntmps101
    obtain ⟨hm, hi, hj, hk⟩ := HM.out
    have M1 := medAdj137 _ B g n c l _ 0 i (Dx.new HD.out) (by omega) (by omega) hn (by omega)
    have bi : a + 1 ≤ i ∧ i + 2 ≤ b := by omega
    have bj : a + 1 ≤ j ∧ j + 2 ≤ b := by omega
    have bk : a + 1 ≤ k ∧ k + 2 ≤ b := by omega
    clear hm hi hj hk HM
    go_wp2_with fail
    refine M1.mono ?_; rintro e w1 ⟨x1, s1, rfl, p1, p2, hs1, hD1, k1⟩
    have M2 := medAdj137 _ B g n c l _ s1 j hD1 (by omega) (by omega) hn (by omega)
    clear hD1
    go_wp2_with fail
    refine M2.mono ?_; rintro e w2 ⟨x2, s2, rfl, p3, p4, hs2, hD2, k2⟩
    have M3 := medAdj137 _ B g n c l _ s2 k hD2 (by omega) (by omega) hn (by omega)
    clear hD2
    go_wp2_with fail
    refine M3.mono ?_; rintro e w3 ⟨x3, s3, rfl, p5, p6, hs3, hD3, k3⟩
    have M4 := median138 _ B g n c l _ s3 x1 x2 x3 hD3 (by omega) (by omega) (by omega) hn (by omega)
    clear hD3
    go_wp2_with fail
    refine M4.mono ?_; rintro e w4 ⟨x4, s4, rfl, p7, hs4, hD4, k4⟩
    have kk := ((k1.trans k2 (fun _ _ e => e)).trans k3 (fun _ _ e => e)).trans k4 (fun _ _ e => e)
    clear k1 k2 k3 k4
    obtain ⟨sb, esb⟩ : ∃ sb, w.heap.size = sb := ⟨_, rfl⟩
    rw [esb] at hD4 kk ⊢
    have hc := hD4.cell
    have hf := hD4.fz
    have HX := hide (And.intro hD4.dr kk)
    have hs12 : s4 ≤ 12 := by omega
    clear hD4 kk M1 M2 M3 M4
    by_cases z0 : s4 = 0
    · subst z0
      go_wp2
      go_ret2
      subst esb
      exact ⟨x4, 1, rfl, by omega, by omega, by omega, HX.out.1, HX.out.2.box⟩
    · have z0I : ¬ (s4 : Int) = 0 := by omega
      by_cases z1 : s4 = 12
      · subst z1
        go_wp2
        go_ret2
        subst esb
        exact ⟨x4, 2, rfl, by omega, by omega, by omega, HX.out.1, HX.out.2.box⟩
      · have z1I : ¬ (s4 : Int) = 12 := by omega
        go_wp2
        go_ret2
        subst esb
        exact ⟨x4, 0, rfl, by omega, by omega, by omega, HX.out.1, HX.out.2.box⟩
  · have h50I : ¬ (m : Int) ≥ 50 := by omega
    go_enter Tryz.func101, Tryz.ntmps101
    obtain ⟨hm, hi, hj, hk⟩ := HM.out
    have M4 := median138 _ B g n c l _ 0 i j k (Dx.new HD.out) (by omega) (by omega) (by omega) hn (by omega)
    have bi : a + 1 ≤ i ∧ i + 2 ≤ b := by omega
    have bj : a + 1 ≤ j ∧ j + 2 ≤ b := by omega
    have bk : a + 1 ≤ k ∧ k + 2 ≤ b := by omega
    clear hm hi hj hk HM
    go_wp2_with fail
    refine M4.mono ?_; rintro e w4 ⟨x4, s4, rfl, p7, hs4, hD4, kk⟩
    obtain ⟨sb, esb⟩ : ∃ sb, w.heap.size = sb := ⟨_, rfl⟩
    rw [esb] at hD4 kk ⊢
    have hc := hD4.cell
    have hf := hD4.fz
    have HX := hide (And.intro hD4.dr kk)
    have hs12 : s4 ≤ 12 := by omega
    clear hD4 kk M4
    by_cases z0 : s4 = 0
    · subst z0
      go_wp2
      go_ret2
      subst esb
      exact ⟨x4, 1, rfl, by omega, by omega, by omega, HX.out.1, HX.out.2.box⟩
    · have z0I : ¬ (s4 : Int) = 0 := by omega
      by_cases z1 : s4 = 12
      · subst z1
        go_wp2
        go_ret2
        subst esb
        exact ⟨x4, 2, rfl, by omega, by omega, by omega, HX.out.1, HX.out.2.box⟩
      · have z1I : ¬ (s4 : Int) = 12 := by omega
        go_wp2
        go_ret2
        subst esb
        exact ⟨x4, 0, rfl, by omega, by omega, by omega, HX.out.1, HX.out.2.box⟩
end Go.Proofs.YtbifmcadllilhaaGreat.Rg
