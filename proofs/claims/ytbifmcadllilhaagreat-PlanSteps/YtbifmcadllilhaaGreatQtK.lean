import Derived.Test.YtbifmcadllilhaaGreatQtG
import Derived.Test.YtbifmcadllilhaaGreatQtJ
import Derived.Laws.CopyOwn
namespace Go.Proofs.YtbifmcadllilhaaGreat.Rg
open Go.RowKit Go.Shelf Go.Sort
set_option linter.unusedVariables false
/-- areAllBelow at height d -/
def Al90 (B pb g n c wd a b : Nat) (host : Int) (d : Nat) : Prop := ∀ (w : World) (t : List Int) (m f l : Nat), Tr w B pb g n c wd t → 0 < m → (m + 1) * 2 ^ d ≤ n → l + 1 = f + 2 ^ d → l ≤ 1000000 → Mxd t d m →
    Calls Tryz.prog 76 #[.pointer (some ⟨pb, 0, none⟩), nod m f l, .int .i64 (a : Int), .int .i64 (b : Int), .int .u8 host] w fun e w' => Pn.Ans (Alls t d m f a b host) e ∧ Kp Nu w w'
set_option maxRecDepth 100000 in
set_option maxHeartbeats 4000000 in
theorem are90_step (B pb g n c wd : Nat) (hn : n ≤ 1000000) (a b : Nat) (hab : a ≤ b) (host : Int) (d : Nat) (IH : ∀ d', d = d' + 1 → Al90 B pb g n c wd a b host d') : Al90 B pb g n c wd a b host d := by
  intro w t m f l hT hm0 hmn hl hl6 hM
  have mixed : Tryz.prog.follows .mixedOrders = true := by kernel_rfl
  obtain ⟨w1, hw1⟩ : ∃ w1, w.alloc (.cells #[.int .i64 (m : Int), .int .i64 (f : Int), .int .i64 (l : Int)] 141) = w1 := ⟨_, rfl⟩
  have kA : Kp Nu w w1 := by rw [← hw1]; exact Kp.alloc _ _ _
  have bA : w1.heap[w.heap.size]? = some (.cells #[.int .i64 (m : Int), .int .i64 (f : Int), .int .i64 (l : Int)] 141 (0, 0)) := by rw [← hw1]; exact heap_alloc_new w _
  have hp := Nat.two_pow_pos d
  have hmN : m < n := by
    have : (m + 1) * 1 ≤ (m + 1) * 2 ^ d := Nat.mul_le_mul_left _ hp
    omega
  obtain ⟨y0, y1, y2⟩ := cell3 bA
  have HB := hide bA
  have HT := hide (hT.nu kA)
  have HK := hide kA
  have HM := hide hM
  have hm0I : (0 : Int) ≤ (m : Int) := by omega
  have hmNI : (m : Int) < (n : Int) := by omega
  have emN : (m : Int).toNat = m := by omega
  have HF := hide (And.intro hmn (And.intro hl hl6))
  clear hT hM bA kA hmn hl hl6
  go_enter Tryz.func76, Tryz.ntmps76
  go_wp2_with fail
  refine (apart104 _ m f l a b).mono ?_; rintro e w2 ⟨⟨bo, rfl, hbo⟩, hk⟩
  by_cases ha : b < f ∨ l < a
  · obtain rfl : bo = true := hbo.2 ha
    clear hbo
    go_wp2
    go_ret
    exact ⟨⟨true, rfl, by simp; exact alls_apart (by have := HF.out.2.1; omega)⟩, HK.out.andNu hk⟩
  obtain rfl : bo = false := by cases bo with
    | true => exact absurd (hbo.1 rfl) ha
    | false => rfl
  have HA := hide ha
  have HT2 := hide (HT.out.nu hk)
  have HK2 := hide (HK.out.andNu hk)
  have HB2 := hide (box2 HB.out hk)
  obtain ⟨z0, z1, z2⟩ := cell3 HB2.out
  have r1 := HT2.out.row
  obtain ⟨x1, x2⟩ := HT2.out.at_ (k := m) hmN
  clear hbo ha HT HK HB y0 y1 y2 hk
  by_cases he : gt t m = 255
  · have db : (gt t m != 255) = false := by simp [he]
    have HE := hide he
    clear he
    go_wp2_with fail
    go_region
    have k2 : Kp Nu w2 w2.drew := (Kp.refl _ _).drew
    have HT3 := hide (HT2.out.nu k2)
    have HK3 := hide (HK2.out.andNu k2)
    have HB3 := hide (box2 HB2.out k2)
    clear HT2 HK2 HB2 z0 z1 z2 r1 x1 x2 k2
    generalize w2.drew = wd2 at *
    have HT2 := HT3
    have HK2 := HK3
    have HB2 := HB3
    obtain ⟨z0, z1, z2⟩ := cell3 HB2.out
    clear HT3 HK3 HB3
    go_wp2_with fail
    refine (within105 _ m f l a b).mono ?_; rintro e w3 ⟨⟨bo, rfl, hbo⟩, hk⟩
    have HT3 := hide (HT2.out.nu hk)
    have HK3 := hide (HK2.out.andNu hk)
    have HB3 := hide (box2 HB2.out hk)
    obtain ⟨y0, y1, y2⟩ := cell3 HB3.out
    clear HT2 HK2 HB2 z0 z1 z2 hk
    by_cases hi : a ≤ f ∧ l ≤ b
    · obtain rfl : bo = true := hbo.2 hi
      have HI := hide hi
      clear hbo hi
      go_wp2
      go_ret
      exact ⟨⟨false, rfl, by simp; exact alls_mixed HM.out HE.out HI.out.1 (by have := HF.out.2.1; have := HI.out; omega)⟩, HK3.out⟩
    obtain rfl : bo = false := by cases bo with
      | true => exact absurd (hbo.1 rfl) hi
      | false => rfl
    obtain ⟨d', rfl⟩ : ∃ d', d = d' + 1 := by
      cases d with
      | zero => have := HF.out.2.1; have := HA.out; simp at this ⊢; omega
      | succ d' => exact ⟨d', rfl⟩
    have I := IH d' rfl
    clear hbo hi IH
    have e2 : 2 ^ (d' + 1) = 2 ^ d' + 2 ^ d' := by rw [Nat.pow_succ]; omega
    have hp' := Nat.two_pow_pos d'
    obtain ⟨hmn', hl', hl6'⟩ := HF.out
    have hmn2 : (2 * m + 1 + 1) * 2 ^ d' ≤ n := by
      have : (m + 1) * 2 ^ (d' + 1) = (2 * m + 1 + 1) * 2 ^ d' := by rw [e2, ← Nat.two_mul, ← Nat.mul_assoc, show (m + 1) * 2 = 2 * m + 1 + 1 by omega]
      omega
    have hmn1 : (2 * m + 1) * 2 ^ d' ≤ n := Nat.le_trans (Nat.mul_le_mul_right _ (by omega)) hmn2
    obtain ⟨x, hx⟩ : ∃ x, x + 1 = f + 2 ^ d' := ⟨f + 2 ^ d' - 1, by omega⟩
    obtain ⟨m1, hm1⟩ : ∃ k, k = 2 * m := ⟨_, rfl⟩
    obtain ⟨m2, hm2⟩ : ∃ k, k = 2 * m + 1 := ⟨_, rfl⟩
    obtain ⟨x1, hx1⟩ : ∃ k, k = x + 1 := ⟨_, rfl⟩
    have HH := fun w => halves_n w m f l m1 m2 x x1 hm1 hm2 hx1 (by omega) (by omega) (by omega) (by omega)
    have I1 : Hid (∀ w, Tr w B pb g n c wd t → Calls Tryz.prog 76 #[.pointer (some ⟨pb, 0, none⟩), nod m1 f x, .int .i64 (a : Int), .int .i64 (b : Int), .int .u8 host] w fun e w' => Pn.Ans (Alls t d' (2 * m) f a b host) e ∧ Kp Nu w w') :=
      hide (fun w hT => by rw [hm1]; exact I w t (2 * m) f x hT (by omega) hmn1 hx (by omega) (mxd_left HM.out HE.out))
    have I2 : Hid (∀ w, Tr w B pb g n c wd t → Calls Tryz.prog 76 #[.pointer (some ⟨pb, 0, none⟩), nod m2 x1 l, .int .i64 (a : Int), .int .i64 (b : Int), .int .u8 host] w fun e w' => Pn.Ans (Alls t d' (2 * m + 1) (f + 2 ^ d') a b host) e ∧ Kp Nu w w') :=
      hide (fun w hT => by rw [hm2, hx1, hx]; exact I w t (2 * m + 1) (f + 2 ^ d') l hT (by omega) hmn2 (by omega) (by omega) (mxd_right HM.out HE.out))
    have HN : Hid (Alls t (d' + 1) m f a b host ↔ Alls t d' (2 * m) f a b host ∧ Alls t d' (2 * m + 1) (f + 2 ^ d') a b host) := hide (alls_node HE.out)
    clear hmn1 hmn2 hl' hl6' hx e2 hmn' I hm1 hm2 hx1
    go_wp2_with fail
    refine (HH _).mono ?_; rintro e w5 ⟨rfl, hk5⟩
    obtain ⟨w6, hw6⟩ : ∃ w6, (w5.alloc (.cells #[.int .i64 (m1 : Int), .int .i64 (f : Int), .int .i64 (x : Int)] 141)).alloc (.cells #[.int .i64 (m2 : Int), .int .i64 (x1 : Int), .int .i64 (l : Int)] 141) = w6 := ⟨_, rfl⟩
    have k56 : Kp Nu w5 w6 := by rw [← hw6]; exact (Kp.alloc _ _ _).andAlloc _
    have bL : w6.heap[w5.heap.size]? = some (.cells #[.int .i64 (m1 : Int), .int .i64 (f : Int), .int .i64 (x : Int)] 141 (0, 0)) := by rw [← hw6]; exact box2 (heap_alloc_new w5 _) (Kp.alloc _ _ Nu)
    have bU : w6.heap[w5.heap.size + 1]? = some (.cells #[.int .i64 (m2 : Int), .int .i64 (x1 : Int), .int .i64 (l : Int)] 141 (0, 0)) := by
      rw [← hw6]
      have q := heap_alloc_new (w5.alloc (.cells #[.int .i64 (m1 : Int), .int .i64 (f : Int), .int .i64 (x : Int)] 141)) (.cells #[.int .i64 (m2 : Int), .int .i64 (x1 : Int), .int .i64 (l : Int)] 141)
      simp only [World.size_alloc] at q
      exact q
    have HT5 := hide (HT3.out.nu (hk5.andNu k56))
    have HK5 := hide (HK3.out.andNu (hk5.andNu k56))
    have HU := hide bU
    obtain ⟨l0, l1, l2⟩ := cell3 bL
    obtain ⟨u0, u1, u2⟩ := cell3 bU
    clear y0 y1 y2 HB3 hk5 HH HT3 HK3 k56 bL bU
    go_wp2_with fail
    refine (I1.out _ HT5.out).mono ?_; rintro e w6 ⟨⟨b1, rfl, hb1⟩, hk6⟩
    have HT6 := hide (HT5.out.nu hk6)
    have HK6 := hide (HK5.out.andNu hk6)
    have HB1 := hide hb1
    have bU6 := box2 HU.out hk6
    clear hk6 hb1 l0 l1 l2 u0 u1 u2
    obtain ⟨u0, u1, u2⟩ := cell3 bU6
    clear bU6
    cases b1 with
    | false =>
      go_wp2
      go_ret
      exact ⟨⟨false, rfl, by simp; intro h; have := HB1.out.2 (HN.out.1 h).1; cases this⟩, HK6.out⟩
    | true =>
      go_wp2_with fail
      refine (I2.out _ HT6.out).mono ?_; rintro e w7 ⟨⟨b2, rfl, hb2⟩, hk7⟩
      have HK7 := hide (HK6.out.andNu hk7)
      have HB2 := hide hb2
      clear hb2 hk7
      go_wp2
      go_ret
      exact ⟨⟨b2, rfl, by rw [HN.out]; constructor
                          · intro h; exact ⟨HB1.out.1 (by first | trivial | rfl), HB2.out.1 h⟩
                          · intro h; exact HB2.out.2 h.2⟩, HK7.out⟩
  · have db : (gt t m != 255) = true := by simpa using he
    have HE : Hid (Alls t d m f a b host ↔ gt t m = host) := hide (alls_one he hab (by have := HF.out.2.1; have := HA.out; omega))
    clear he
    by_cases hq : gt t m = host
    · have dq : (gt t m == host) = true := by simpa using hq
      go_wp2_with fail
      go_region
      go_wp2_with fail
      go_region
      go_wp2
      go_ret
      exact ⟨⟨true, rfl, by rw [HE.out]; simp [hq]⟩, HK2.out.drew.drew⟩
    · have dq : (gt t m == host) = false := by simpa using hq
      go_wp2_with fail
      go_region
      go_wp2_with fail
      go_region
      go_wp2
      go_ret
      exact ⟨⟨false, rfl, by rw [HE.out]; simp [hq]⟩, HK2.out.drew.drew⟩
theorem are90 (B pb g n c wd : Nat) (hn : n ≤ 1000000) (a b : Nat) (hab : a ≤ b) (host : Int) : ∀ d, Al90 B pb g n c wd a b host d
  | 0 => are90_step B pb g n c wd hn a b hab host 0 (fun _ e => by omega)
  | d + 1 => are90_step B pb g n c wd hn a b hab host (d + 1) (fun d' e => by cases e; exact are90 B pb g n c wd hn a b hab host d)
end Go.Proofs.YtbifmcadllilhaaGreat.Rg
namespace Go.Proofs.YtbifmcadllilhaaGreat.Rg
open Go.RowKit Go.Shelf Go.Sort
set_option linter.unusedVariables false
theorem give92 (B pb g n c wd : Nat) (hn : n ≤ 1000000) (a b : Nat) (host : Int) (hh : host ≠ 255) : ∀ d, Gv92 B pb g n c wd a b host d
  | 0 => give92_step B pb g n c wd hn a b host hh 0 (fun _ e => by omega)
  | d + 1 => give92_step B pb g n c wd hn a b host hh (d + 1) (fun d' e => by cases e; exact give92 B pb g n c wd hn a b host hh d)
/-- whose the parts are, as the tree has it -/
structure OwT (w : World) (B pb g c D : Nat) (o : Nat → Int) (t : List Int) : Prop where
  tr : Tr w B pb g (2 * 2 ^ D) c (2 ^ D) t
  mxd : Mxd t D 1
  who : ∀ q, q < 2 ^ D → who t D 1 q = o q
theorem OwT.nu {w w' : World} {B pb g c D : Nat} {o : Nat → Int} {t : List Int} (h : OwT w B pb g c D o t) (k : Kp Nu w w') : OwT w' B pb g c D o t := ⟨h.tr.nu k, h.mxd, h.who⟩
set_option maxRecDepth 100000 in
set_option maxHeartbeats 1000000 in
theorem root91 (w : World) (B pb g n c wd : Nat) (t : List Int) (hT : Tr w B pb g n c wd t) (h1 : 1 ≤ wd) (h2 : wd ≤ 1000000) :
    Calls Tryz.prog 77 #[.pointer (some ⟨pb, 0, none⟩)] w fun e w' => e = .returned (nod 1 0 (wd - 1)) ∧ Kp Nu w w' := by
  have mixed : Tryz.prog.follows .mixedOrders = true := by kernel_rfl
  have c0 := hT.wid
  have e1 : IntKind.i64.wrap ((wd : Int) - 1) = ((wd - 1 : Nat) : Int) := by rw [IntKind.wrap_i64]; omega
  have e2 : (wd : Int) - 1 = ((wd - 1 : Nat) : Int) := by omega
  have w0 : (1 : Int) ≤ (wd : Int) := by omega
  have w1 : (wd : Int) ≤ 1000000 := by omega
  obtain ⟨w1, hw1⟩ : ∃ w1, w.alloc (.cells #[.int .i64 0, .int .i64 0, .int .i64 0] 141) = w1 := ⟨_, rfl⟩
  have kA : Kp Nu w w1 := by rw [← hw1]; exact Kp.alloc _ _ _
  have bA : w1.heap[w.heap.size]? = some (.cells #[.int .i64 0, .int .i64 0, .int .i64 0] 141 (0, 0)) := by rw [← hw1]; exact heap_alloc_new w _
  have c1 := cell_nu c0 kA
  obtain ⟨y0, y1, y2⟩ := cell3 bA
  have f0 := free3 bA 0
  have f1 := free3 bA 1
  have f2 := free3 bA 2
  obtain ⟨v, hv⟩ : ∃ v : Nat, v = wd - 1 := ⟨_, rfl⟩
  rw [← hv] at e1 e2 ⊢
  have HK := hide (And.intro kA bA)
  clear hT kA bA c0 hv
  go_enter Tryz.func77, Tryz.ntmps77
  go_wp2
  obtain ⟨kA, bA⟩ := HK.out
  have B1 := set3 bA 0 (.int .i64 1)
  have B2 := set3 B1 1 (.int .i64 0)
  have B3 := set3 B2 2 (.int .i64 (v : Int))
  have K1 := ((kA.andSet ⟨w.heap.size, 0, none⟩ (.int .i64 1) (.inl (Nat.le_refl _))).andSet ⟨w.heap.size, 1, none⟩ (.int .i64 0) (.inl (Nat.le_refl _))).andSet ⟨w.heap.size, 2, none⟩ (.int .i64 (v : Int)) (.inl (Nat.le_refl _))
  generalize ((w1.setCell ⟨w.heap.size, 0, none⟩ (.int .i64 1)).setCell ⟨w.heap.size, 1, none⟩ (.int .i64 0)).setCell ⟨w.heap.size, 2, none⟩ (.int .i64 (v : Int)) = w2 at *
  obtain ⟨p0, p1, p2⟩ := cell3 B3
  first
    | exact bodyPost_ret (v := nod 1 0 v) (by simp [results, Tryz.results77, go_sem, p0, p1, p2]) rfl ⟨rfl, K1⟩
    | exact bodyPost_ret (v := nod 1 0 v) (by simp [results, Tryz.results77, go_sem, p0, p1, p2]) rfl ⟨rfl, K1.drew⟩
    | trace_state
set_option maxRecDepth 100000 in
set_option maxHeartbeats 1000000 in
theorem areAll63 (w : World) (B pb g c D : Nat) (o : Nat → Int) (t : List Int) (h : OwT w B pb g c D o t) (hD : 2 * 2 ^ D ≤ 1000000) (a b : Nat) (hab : a ≤ b) (hb : b < 2 ^ D) (host : Int) :
    Calls Tryz.prog 59 #[.pointer (some ⟨pb, 0, none⟩), .int .i64 (a : Int), .int .i64 (b : Int), .int .u8 host] w fun e w' => Pn.Ans (∀ j, a ≤ j → j ≤ b → o j = host) e ∧ Kp Nu w w' := by
  have mixed : Tryz.prog.follows .mixedOrders = true := by kernel_rfl
  have hp := Nat.two_pow_pos D
  have RT := root91 w B pb g _ c _ t h.tr hp (by omega)
  have AL := fun w' (k : Kp Nu w w') => are90 B pb g (2 * 2 ^ D) c (2 ^ D) hD a b hab host D w' t 1 0 (2 ^ D - 1) (h.tr.nu k) (by omega) (by omega) (by omega) (by omega) h.mxd
  have HE : Hid (Alls t D 1 0 a b host ↔ ∀ j, a ≤ j → j ≤ b → o j = host) := hide (by
    constructor
    · intro hA j j1 j2
      rw [← h.who j (by omega)]
      exact hA j (by omega) (by omega) (by omega)
    · intro hA q q1 q2 q3
      rw [h.who q q1]
      exact hA q (by omega) (by omega))
  clear h
  go_enter Tryz.func59, Tryz.ntmps59
  go_wp2_with (first | (go_at_call 77; refine RT.mono ?_; rintro e w2 ⟨rfl, hk2⟩) | (go_at_call 76; refine (AL _ hk2).mono ?_; rintro e w3 ⟨⟨bo, rfl, hbo⟩, hk3⟩))
  go_ret
  exact ⟨⟨bo, rfl, by rw [hbo]; exact HE.out⟩, hk2.andNu hk3⟩
set_option maxRecDepth 100000 in
set_option maxHeartbeats 1000000 in
theorem give64 (w : World) (B pb g c D : Nat) (o : Nat → Int) (t : List Int) (h : OwT w B pb g c D o t) (hD : 2 * 2 ^ D ≤ 1000000) (a b : Nat) (host : Int) (hh : host ≠ 255) :
    Calls Tryz.prog 60 #[.pointer (some ⟨pb, 0, none⟩), .int .i64 (a : Int), .int .i64 (b : Int), .int .u8 host] w fun e w' => e = .returned (.tuple #[]) ∧ ∃ t', OwT w' B pb g c D (fun j => if a ≤ j ∧ j ≤ b then host else o j) t' ∧ Kp (fun k => k = g) w w' := by
  have mixed : Tryz.prog.follows .mixedOrders = true := by kernel_rfl
  have hp := Nat.two_pow_pos D
  have RT := root91 w B pb g _ c _ t h.tr hp (by omega)
  have GV := fun w' (k : Kp Nu w w') => give92 B pb g (2 * 2 ^ D) c (2 ^ D) hD a b host hh D w' t 1 0 (2 ^ D - 1) (h.tr.nu k) (by omega) (by omega) (by omega) (by omega) h.mxd
  have HW := hide h.who
  clear h
  go_enter Tryz.func60, Tryz.ntmps60
  go_wp2_with (first | (go_at_call 77; refine RT.mono ?_; rintro e w2 ⟨rfl, hk2⟩) | (go_at_call 78; refine (GV _ hk2).mono ?_; rintro e w3 ⟨rfl, t', hT, hG, hk3⟩))
  go_end0
  refine ⟨rfl, t', ⟨hT, hG.mxd, fun q hq => ?_⟩, (hk2.mono (fun _ _ e => e.elim)).trans hk3 (fun _ _ e => e)⟩
  rw [hG.now q hq, HW.out q hq, Nat.zero_add]
end Go.Proofs.YtbifmcadllilhaaGreat.Rg
namespace Go.Proofs.YtbifmcadllilhaaGreat.Rg
open Go.RowKit Go.Shelf Go.Sort
set_option linter.unusedVariables false
set_option maxRecDepth 100000 in
set_option maxHeartbeats 4000000 in
theorem list65 (w : World) (B pb g c D P : Nat) (o : Nat → Int) (t : List Int) (h : OwT w B pb g c D o t) (hD : 2 * 2 ^ D ≤ 1000000) (hP0 : 0 < P) (hP : P ≤ 2 ^ D) :
    Calls Tryz.prog 61 #[.pointer (some ⟨pb, 0, none⟩), .int .i64 (P : Int)] w fun e w' => e = .returned (.slice (some ⟨g, 2 ^ D, none⟩) P (c - 2 ^ D)) ∧ ∃ t', Tr w' B pb g (2 * 2 ^ D) c (2 ^ D) t' ∧ (∀ q, q < P → gt t' (2 ^ D + q) = o q) ∧ Kp (fun k => k = g) w w' := by
  have mixed : Tryz.prog.follows .mixedOrders = true := by kernel_rfl
  have hp := Nat.two_pow_pos D
  have hcn : 2 * 2 ^ D ≤ c := by
    rcases h.tr.own.2 with ⟨e0, _⟩ | ⟨g', cap', cur, e0, _, _, h1, _⟩
    · cases e0
    · cases e0; exact h1
  obtain ⟨wd, hwd⟩ : ∃ wd, wd = 2 ^ D := ⟨_, rfl⟩
  obtain ⟨n, hn⟩ : ∃ n, n = 2 * wd := ⟨_, rfl⟩
  have hT := h.tr
  have HL := hide (Lst.start h.who)
  rw [← hwd, ← hn] at hT
  rw [← hwd] at hcn hP hD hp ⊢
  rw [← hn] at hcn hD ⊢
  have HD := hide hwd
  have HT := hide hT
  clear hT h hwd
  have hw0 : (1 : Int) ≤ (wd : Int) := by omega
  have hw1 : (wd : Int) ≤ 1000000 := by omega
  have HN := hide hn
  have hN1 : n ≤ 1000000 := hD
  go_enter Tryz.func61, Tryz.ntmps61
  go_wp2
  go_loopw [5] (fun iv wr => ∃ i : Nat, iv = .int .i64 (i : Int) ∧ 1 ≤ i ∧ i ≤ wd ∧ Hid (∃ t', Tr wr B pb g n c wd t' ∧ Lst D t' o i ∧ Kp (fun k => k = g) w wr)) (fun iv _ => wd - (intOf iv).toNat)
  case atStart => exact ⟨1, rfl, by omega, by omega, hide ⟨t, HT.out, HL.out, Kp.refl _ _⟩⟩
  case round =>
    obtain ⟨i, rfl, hi1, hi2, hI⟩ := hrel
    obtain ⟨t', h1, h2, h3⟩ := hI.out
    have c0 := h1.wid
    have c1 := h1.row
    have hi0 : (0 : Int) ≤ (i : Int) := by omega
    by_cases hlt : i < wd
    · have hltI : (i : Int) < (wd : Int) := by omega
      have HA := hand93 wr B pb g n c wd t' i h1 (by omega) (by have := HN.out; omega) hN1
      have HJ := hide (And.intro h2 h3)
      clear hI h1 h2 h3
      go_wp2_with fail
      refine HA.mono ?_; rintro e w4 ⟨rfl, t2, hT2, hH, hk4⟩
      have HQ := hide (And.intro hT2 (And.intro hH hk4))
      clear hT2 hH hk4 HA
      go_wp2
      obtain ⟨hT2, hH, hk4⟩ := HQ.out
      exact ⟨⟨i + 1, by go_num, by omega, by omega, hide ⟨t2, hT2, HJ.out.1.step (by omega) (by rw [← HD.out]; omega) hH, HJ.out.2.trans hk4 (fun _ _ e => e)⟩⟩, by simp [intOf]; omega⟩
    · have hltI : ¬ (i : Int) < (wd : Int) := by omega
      have ei : i = wd := by omega
      have f1 : IntKind.i64.wrap ((wd : Int) + (P : Int)) = (wd : Int) + (P : Int) := by rw [IntKind.wrap_i64]; omega
      have f2 : (0 : Int) ≤ (wd : Int) := by omega
      have f3 : (wd : Int) ≤ (wd : Int) + (P : Int) := by omega
      have f4 : (wd : Int) + (P : Int) ≤ (n : Int) := by have := HN.out; omega
      have f5 : (wd : Int) + (P : Int) ≤ (c : Int) := by omega
      have f6 : (wd : Int).toNat = wd := by omega
      have f7 : ((wd : Int) + (P : Int)).toNat = wd + P := by omega
      have f8 : ((wd : Int) + (P : Int) - (wd : Int)).toNat = P := by omega
      have f9 : ¬ c = wd := by omega
      have HJ := hide (And.intro h1 (And.intro h2 (And.intro h3 ei)))
      clear hI h1 h2 h3 ei
      go_wp2_with fail
      go_region
      go_wp2
      go_ret
      obtain ⟨h1, h2, h3, ei⟩ := HJ.out
      refine ⟨rfl, t', h1.drew, fun q hq => ?_, h3.drew⟩
      rw [ei] at h2
      have := HD.out
      rw [this] at h2 ⊢
      exact h2.done (by omega)
end Go.Proofs.YtbifmcadllilhaaGreat.Rg
