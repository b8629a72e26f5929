import Derived.Test.YtbifmcadllilhaaGreatQtF
namespace Go.Proofs.YtbifmcadllilhaaGreat.Rg
open Go.RowKit Go.Shelf Go.Sort
set_option linter.unusedVariables false
/-- giveBelow at height d -/
def Gv92 (B pb g n c wd a b : Nat) (host : Int) (d : Nat) : Prop := ∀ (w : World) (t : List Int) (m f l : Nat), Tr w B pb g n c wd t → 0 < m → (m + 1) * 2 ^ d ≤ n → l + 1 = f + 2 ^ d → l ≤ 1000000 → Mxd t d m →
    Calls Tryz.prog 78 #[.pointer (some ⟨pb, 0, none⟩), nod m f l, .int .i64 (a : Int), .int .i64 (b : Int), .int .u8 host] w fun e w' => e = .returned (.tuple #[]) ∧ ∃ t', Tr w' B pb g n c wd t' ∧ Gvn t t' d m f a b host ∧ Kp (fun k => k = g) w w'
theorem Tr.len_lt {w : World} {B pb g n c wd : Nat} {t : List Int} (h : Tr w B pb g n c wd t) {m : Nat} (hm : m < n) : m < t.length := by rw [h.len]; exact hm
theorem halves_n (w : World) (m f l m1 m2 x x1 : Nat) (h1 : m1 = 2 * m) (h2 : m2 = 2 * m + 1) (h3 : x1 = x + 1) (hx : f + l = 2 * x + 1) (hm : m ≤ 1000000) (hf : f ≤ 1000000) (hl : l ≤ 1000000) :
    Calls Tryz.prog 94 #[nod m f l] w fun e w' => e = .returned (.tuple #[nod m1 f x, nod m2 x1 l]) ∧ Kp Nu w w' := by
  subst h1 h2 h3
  exact halves106 w m f l x hx hm hf hl
theorem blk_kp {S : Nat → Prop} {w w' : World} {b : Nat} {o : Obj} (h : w.heap[b]? = some o) (k : Kp S w w') (hs : ¬ S b) : w'.heap[b]? = some o := (k.block b (blk_lt h) hs).trans h
set_option maxRecDepth 100000 in
set_option maxHeartbeats 4000000 in
theorem give92_step (B pb g n c wd : Nat) (hn : n ≤ 1000000) (a b : Nat) (host : Int) (hh : host ≠ 255) (d : Nat) (IH : ∀ d', d = d' + 1 → Gv92 B pb g n c wd a b host d') : Gv92 B pb g n c wd a b host d := by
  intro w t m f l hT hm0 hmn hl hl6 hM
  have mixed : Tryz.prog.follows .mixedOrders = true := by kernel_rfl
  obtain ⟨w1, hw1⟩ : ∃ w1, w.alloc (.cells #[.int .i64 (m : Int), .int .i64 (f : Int), .int .i64 (l : Int)] 141) = w1 := ⟨_, rfl⟩
  have kA : Kp Nu w w1 := by rw [← hw1]; exact Kp.alloc _ _ _
  have bA : w1.heap[w.heap.size]? = some (.cells #[.int .i64 (m : Int), .int .i64 (f : Int), .int .i64 (l : Int)] 141 (0, 0)) := by rw [← hw1]; exact heap_alloc_new w _
  have hgw := hT.lt
  have hp := Nat.two_pow_pos d
  have hmN : m < n := by
    have : (m + 1) * 1 ≤ (m + 1) * 2 ^ d := Nat.mul_le_mul_left _ hp
    omega
  obtain ⟨y0, y1, y2⟩ := cell3 bA
  have HB := hide bA
  have HT := hide (hT.nu kA)
  have HK := hide kA
  have HM := hide hM
  have hlenm := hT.len_lt hmN
  have hm0I : (0 : Int) ≤ (m : Int) := by omega
  have hmNI : (m : Int) < (n : Int) := by omega
  have emN : (m : Int).toNat = m := by omega
  have HF := hide (And.intro hgw (And.intro hlenm (And.intro hmn (And.intro hl hl6))))
  clear hT hM bA kA hgw hlenm
  go_enter Tryz.func78, Tryz.ntmps78
  go_wp2_with fail
  refine (apart104 _ m f l a b).mono ?_; rintro e w2 ⟨⟨bo, rfl, hbo⟩, hk⟩
  by_cases ha : b < f ∨ l < a
  · obtain rfl : bo = true := hbo.2 ha
    clear hbo
    go_wp2
    refine bodyPost_ret (results_none rfl _ _ _) rfl ?_
    exact ⟨rfl, t, HT.out.nu hk, Gvn.apart HM.out (by have := HF.out.2.2.2.1; omega), ((HK.out.andNu hk)).mono (fun _ _ e => e.elim)⟩
  obtain rfl : bo = false := by cases bo with
    | true => exact absurd (hbo.1 rfl) ha
    | false => rfl
  have HA := hide ha
  have HT2 := hide (HT.out.nu hk)
  have HK2 := hide (HK.out.andNu hk)
  have HB2 := hide (box2 HB.out hk)
  obtain ⟨z0, z1, z2⟩ := cell3 HB2.out
  clear hbo ha HT HK HB y0 y1 y2 hk
  go_wp2_with fail
  refine (within105 _ m f l a b).mono ?_; rintro e w3 ⟨⟨bo, rfl, hbo⟩, hk⟩
  have HT3 := hide (HT2.out.nu hk)
  have HK3 := hide (HK2.out.andNu hk)
  have HB3 := hide (box2 HB2.out hk)
  obtain ⟨y0, y1, y2⟩ := cell3 HB3.out
  clear HT2 HK2 HB2 z0 z1 z2 hk
  by_cases hi : a ≤ f ∧ l ≤ b
  · obtain rfl : bo = true := hbo.2 hi
    have HI := hide hi
    clear hbo hi
    have r1 := HT3.out.row
    obtain ⟨x1, x2⟩ := HT3.out.at_ (k := m) hmN
    go_wp2_with fail
    go_region
    go_wp2
    refine bodyPost_ret (results_none rfl _ _ _) rfl ?_
    have hl' := HF.out.2.2.2.1
    have hI := HI.out
    refine ⟨rfl, _, (HT3.out.set (k := m) hmN host).drew, Gvn.within HF.out.2.1 hh hI.1 (by omega), ((HK3.out.mono (T := fun k => k = g) (fun _ _ e => e.elim)).andSet ⟨g, m, none⟩ _ (.inr rfl)).drew⟩
  obtain rfl : bo = false := by cases bo with
    | true => exact absurd (hbo.1 rfl) hi
    | false => rfl
  obtain ⟨d', rfl⟩ : ∃ d', d = d' + 1 := by
    cases d with
    | zero => have := HF.out.2.2.2.1; have := HA.out; simp at this ⊢; omega
    | succ d' => exact ⟨d', rfl⟩
  have I := IH d' rfl
  clear hbo hi IH
  have e2 : 2 ^ (d' + 1) = 2 ^ d' + 2 ^ d' := by rw [Nat.pow_succ]; omega
  have hp' := Nat.two_pow_pos d'
  obtain ⟨_, _, hmn', hl', hl6'⟩ := HF.out
  have hmn2 : (2 * m + 1 + 1) * 2 ^ d' ≤ n := by
    have : (m + 1) * 2 ^ (d' + 1) = (2 * m + 1 + 1) * 2 ^ d' := by rw [e2, ← Nat.two_mul, ← Nat.mul_assoc, show (m + 1) * 2 = 2 * m + 1 + 1 by omega]
    omega
  have hmn1 : (2 * m + 1) * 2 ^ d' ≤ n := Nat.le_trans (Nat.mul_le_mul_right _ (by omega)) hmn2
  have hmn3 : 2 * m + 1 < n := by
    have : (2 * m + 1 + 1) * 1 ≤ (2 * m + 1 + 1) * 2 ^ d' := Nat.mul_le_mul_left _ hp'
    omega
  obtain ⟨x, hx⟩ : ∃ x, x + 1 = f + 2 ^ d' := ⟨f + 2 ^ d' - 1, by omega⟩
  obtain ⟨m1, hm1⟩ : ∃ k, k = 2 * m := ⟨_, rfl⟩
  obtain ⟨m2, hm2⟩ : ∃ k, k = 2 * m + 1 := ⟨_, rfl⟩
  obtain ⟨x1, hx1⟩ : ∃ k, k = x + 1 := ⟨_, rfl⟩
  have HH := fun w => halves_n w m f l m1 m2 x x1 hm1 hm2 hx1 (by omega) (by omega) (by omega) (by omega)
  have I1 : Hid (∀ (w : World) (t : List Int), Tr w B pb g n c wd t → Mxd t d' (2 * m) → Calls Tryz.prog 78 #[.pointer (some ⟨pb, 0, none⟩), nod m1 f x, .int .i64 (a : Int), .int .i64 (b : Int), .int .u8 host] w fun e w' => e = .returned (.tuple #[]) ∧ ∃ t', Tr w' B pb g n c wd t' ∧ Gvn t t' d' (2 * m) f a b host ∧ Kp (fun k => k = g) w w') :=
    hide (fun w t hT hM => by rw [hm1]; exact I w t (2 * m) f x hT (by omega) hmn1 hx (by omega) hM)
  have I2 : Hid (∀ (w : World) (t : List Int), Tr w B pb g n c wd t → Mxd t d' (2 * m + 1) → Calls Tryz.prog 78 #[.pointer (some ⟨pb, 0, none⟩), nod m2 x1 l, .int .i64 (a : Int), .int .i64 (b : Int), .int .u8 host] w fun e w' => e = .returned (.tuple #[]) ∧ ∃ t', Tr w' B pb g n c wd t' ∧ Gvn t t' d' (2 * m + 1) (f + 2 ^ d') a b host ∧ Kp (fun k => k = g) w w') :=
    hide (fun w t hT hM => by rw [hm2, hx1, hx]; exact I w t (2 * m + 1) (f + 2 ^ d') l hT (by omega) hmn2 (by omega) (by omega) hM)
  clear hmn1 hmn2 hl' hl6' hx e2 hmn' hmn hl hm1 hm2 hx1 I
  go_wp2_with fail
  refine (hand93 _ B pb g n c wd t m HT3.out hm0 hmn3 hn).mono ?_; rintro e w4 ⟨rfl, t1, hT4, hH, hk4⟩
  have hgb := HF.out.1
  have HB4 := hide (blk_kp HB3.out hk4 (by omega))
  obtain ⟨z0, z1, z2⟩ := cell3 HB4.out
  have HK4 := hide ((HK3.out.mono (T := fun k => k = g) (fun _ _ e => e.elim)).trans hk4 (fun _ _ e => e))
  clear hk4 y0 y1 y2 HB3 HK3 HT3
  go_wp2_with fail
  refine (HH _).mono ?_; rintro e w5 ⟨rfl, hk5⟩
  obtain ⟨w6, hw6⟩ : ∃ w6, (w5.alloc (.cells #[.int .i64 (m1 : Int), .int .i64 (f : Int), .int .i64 (x : Int)] 141)).alloc (.cells #[.int .i64 (m2 : Int), .int .i64 (x1 : Int), .int .i64 (l : Int)] 141) = w6 := ⟨_, rfl⟩
  have k56 : Kp Nu w5 w6 := by rw [← hw6]; exact (Kp.alloc _ _ _).andAlloc _
  have bL : w6.heap[w5.heap.size]? = some (.cells #[.int .i64 (m1 : Int), .int .i64 (f : Int), .int .i64 (x : Int)] 141 (0, 0)) := by rw [← hw6]; exact box2 (heap_alloc_new w5 _) (Kp.alloc _ _ Nu)
  have bU : w6.heap[w5.heap.size + 1]? = some (.cells #[.int .i64 (m2 : Int), .int .i64 (x1 : Int), .int .i64 (l : Int)] 141 (0, 0)) := by
    rw [← hw6]
    have q := heap_alloc_new (w5.alloc (.cells #[.int .i64 (m1 : Int), .int .i64 (f : Int), .int .i64 (x : Int)] 141)) (.cells #[.int .i64 (m2 : Int), .int .i64 (x1 : Int), .int .i64 (l : Int)] 141)
    simp only [World.size_alloc] at q
    exact q
  have hk6 := hk5.andNu k56
  have HT6 := hide (hT4.nu hk6)
  have HB6 := hide (And.intro (box2 HB4.out hk6) bU)
  have HK6 := hide (HK4.out.andNu hk6)
  have hg5 : g < w5.heap.size := Nat.lt_of_lt_of_le hgb (Nat.le_trans HK4.out.size hk5.size)
  obtain ⟨l0, l1, l2⟩ := cell3 bL
  obtain ⟨u0, u1, u2⟩ := cell3 bU
  have HHD := hide hH
  clear z0 z1 z2 hT4 HB4 HK4 hk5 HH k56 hk6 bL bU hH
  go_wp2_with fail
  refine (I1.out _ _ HT6.out (HHD.out.left HM.out)).mono ?_; rintro e w7 ⟨rfl, t2, hT7, hG7, hk7⟩
  have HT7 := hide hT7
  have HG7 := hide hG7
  have HB7 := hide (And.intro (blk_kp HB6.out.1 hk7 (by omega)) (blk_kp HB6.out.2 hk7 (by omega)))
  have HK7 := hide (HK6.out.trans hk7 (fun _ _ e => e))
  clear l0 l1 l2 u0 u1 u2
  obtain ⟨u0, u1, u2⟩ := cell3 HB7.out.2
  clear hT7 hG7 hk7 HT6 HB6 HK6
  go_wp2_with fail
  refine (I2.out _ _ HT7.out (HG7.out.right hm0 (HHD.out.right HM.out))).mono ?_; rintro e w8 ⟨rfl, t3, hT8, hG8, hk8⟩
  have HT8 := hide hT8
  have HG8 := hide hG8
  have HB8 := hide (blk_kp HB7.out.1 hk8 (by omega))
  have HK8 := hide (HK7.out.trans hk8 (fun _ _ e => e))
  clear u0 u1 u2
  obtain ⟨y0, y1, y2⟩ := cell3 HB8.out
  clear hT8 hG8 hk8 HT7 HB7 HK7
  go_wp2_with fail
  refine (gather88 _ B pb g n c wd t3 m HT8.out hm0 hmn3 hn).mono ?_; rintro e w9 ⟨rfl, t4, hT9, h91, h92, hk9⟩
  have HT9 := hide hT9
  have H9 := hide (And.intro h91 (And.intro h92 hk9))
  clear hT9 h91 h92 hk9
  go_wp2
  go_end0
  exact ⟨rfl, t4, HT9.out, Gvn.node hm0 HM.out HHD.out HG7.out HG8.out H9.out.1 H9.out.2.1, HK8.out.trans H9.out.2.2 (fun _ _ e => e)⟩
end Go.Proofs.YtbifmcadllilhaaGreat.Rg
