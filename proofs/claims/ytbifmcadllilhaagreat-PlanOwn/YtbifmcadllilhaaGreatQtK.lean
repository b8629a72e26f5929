import Derived.Test.YtbifmcadllilhaaGreatQuA
import Derived.Test.YtbifmcadllilhaaGreatQtG
import Derived.Test.YtbifmcadllilhaaGreatRgD
import Derived.Laws.CopyOwn
namespace Go.Proofs.YtbifmcadllilhaaGreat.Rg
open Go.RowKit Go.Shelf Go.Sort
set_option linter.unusedVariables false
/-- the field in memory -/
structure Fd (w : World) (B fb sg ns cs pb : Nat) (S : List Int) : Prop where
  blk : w.heap[fb]? = some (.cells #[.slice (some ⟨sg, 0, none⟩) ns cs, .pointer (some ⟨pb, 0, none⟩)] 117 (0, 0))
  row : Dr w B sg ns cs S
theorem Fd.nu {w w' : World} {B fb sg ns cs pb : Nat} {S : List Int} (h : Fd w B fb sg ns cs pb S) (k : Kp Nu w w') : Fd w' B fb sg ns cs pb S := ⟨box2 h.blk k, h.row.nu k⟩
theorem Fd.c0 {w : World} {B fb sg ns cs pb : Nat} {S : List Int} (h : Fd w B fb sg ns cs pb S) : w.cell? ⟨fb, 0, none⟩ = some (.slice (some ⟨sg, 0, none⟩) ns cs) := by simp [World.cell?, h.blk]
theorem Fd.c1 {w : World} {B fb sg ns cs pb : Nat} {S : List Int} (h : Fd w B fb sg ns cs pb S) : w.cell? ⟨fb, 1, none⟩ = some (.pointer (some ⟨pb, 0, none⟩)) := by simp [World.cell?, h.blk]
set_option maxRecDepth 100000 in
set_option maxHeartbeats 1000000 in
theorem part1_89 {w : World} {B fb sg ns cs pb : Nat} {S : List Int} (h : Fd w B fb sg ns cs pb S) (kb tb : Nat) (key : Int) (hk : w.heap[kb]? = some (.cells #[.int .u64 key] 24 (0, 0))) (ht : w.heap[tb]? = some (.cells #[.pointer (some ⟨fb, 0, none⟩)] 85 (0, 0))) (i : Nat) (hi : i < ns) :
    Calls Tryz.prog 75 #[.int .i64 (i : Int), .pointer (some ⟨tb, 0, none⟩), .pointer (some ⟨kb, 0, none⟩)] w fun e w' => e = .returned (.bool (decide (gt S i > key))) ∧ w' = w.drew := by
  have mixed : Tryz.prog.follows .mixedOrders = true := by kernel_rfl
  obtain ⟨x0, _⟩ := h.row.at_ hi
  have c0 := h.c0
  have k1 := cell1 hk
  have k2 := cell1 ht
  have hiI : (i : Int) < (ns : Int) := by omega
  have hi0 : (0 : Int) ≤ (i : Int) := by omega
  have eti : (i : Int).toNat = i := by omega
  clear h
  go_enter Tryz.func75, Tryz.ntmps75
  go_wp2_with fail
  go_region
  go_wp2
  go_ret
  exact ⟨rfl, rfl⟩
theorem count_part {S : List Int} (h : Sts S) {key : Int} : ∀ n, n ≤ S.length → ∀ j, j ≤ n → (∀ i, i < n → (gt S i ≤ key ↔ i < j)) → (List.range n).countP (fun i => !(decide (gt S i > key))) = j
  | 0, _, j, hj, _ => by simp; omega
  | n + 1, hn, j, hj, hh => by
    rw [List.range_succ, List.countP_append]
    by_cases c : j ≤ n
    · rw [count_part h n (by omega) j c (fun i hi => hh i (by omega))]
      have := hh n (by omega)
      have d : ¬ gt S n ≤ key := fun hc => by have := this.1 hc; omega
      simp
      omega
    · obtain rfl : j = n + 1 := by omega
      rw [count_part h n (by omega) n (Nat.le_refl _) (fun i hi => by rw [hh i (by omega)]; omega)]
      have := (hh n (by omega)).2 (by omega)
      simp
      exact this
set_option maxRecDepth 100000 in
set_option maxHeartbeats 1000000 in
theorem part62 {w : World} {B fb sg ns cs pb : Nat} {S : List Int} (h : Fd w B fb sg ns cs pb S) (hS : Sts S) (hn : ns ≤ 1000000) (key : Int) (j : Nat) (hj : Inp S j key) :
    Calls Tryz.prog 58 #[.pointer (some ⟨fb, 0, none⟩), .int .u64 key] w fun e w' => e = .returned (.int .i64 (j : Int)) ∧ Kp Nu w w' := by
  have mixed : Tryz.prog.follows .mixedOrders = true := by kernel_rfl
  have K2 : Kp Nu w ((w.alloc (.cells #[.pointer (some ⟨fb, 0, none⟩)] 85)).alloc (.cells #[.int .u64 key] 24)) := (Kp.alloc w _ Nu).andAlloc _
  have T2 := h.nu K2
  have hl := h.row.len
  have x0 : ((w.alloc (.cells #[.pointer (some ⟨fb, 0, none⟩)] 85)).alloc (.cells #[.int .u64 key] 24)).heap[w.heap.size]? = some (.cells #[.pointer (some ⟨fb, 0, none⟩)] 85 (0, 0)) := (Below.heap_alloc _ _ _ (by simp)).trans (heap_alloc_new w _)
  have x1 : ((w.alloc (.cells #[.pointer (some ⟨fb, 0, none⟩)] 85)).alloc (.cells #[.int .u64 key] 24)).heap[w.heap.size + 1]? = some (.cells #[.int .u64 key] 24 (0, 0)) := by
    have := heap_alloc_new (w.alloc (.cells #[.pointer (some ⟨fb, 0, none⟩)] 85)) (.cells #[.int .u64 key] 24)
    rwa [World.size_alloc] at this
  generalize hW : (w.alloc (.cells #[.pointer (some ⟨fb, 0, none⟩)] 85)).alloc (.cells #[.int .u64 key] 24) = W at K2 T2 x0 x1
  have mono : ∀ i, i < ns → (gt S i ≤ key ↔ i < j + 1) := fun i hi => by
    constructor
    · intro c
      rcases Nat.lt_or_ge i (j + 1) with d | d
      · exact d
      · have := hS.nxle (i := j) (j := i) (by omega) (by omega); have := hj.hi; omega
    · intro c
      have := hj.lo
      by_cases e : i = j
      · subst e; exact this
      · have := hS.inc i j (by omega) hj.lt; omega
  have SE := Any.sort_Search Tryz.search 75 #[.pointer (some ⟨w.heap.size, 0, none⟩), .pointer (some ⟨w.heap.size + 1, 0, none⟩)] ns (fun i => decide (gt S i > key)) W (enters_of Tryz.func75 (by kernel_rfl) rfl) (by omega)
    (fun m os i hi => by
      have kk := kp_grow W m os
      refine (part1_89 (T2.nu kk) (w.heap.size + 1) w.heap.size key ((kk.block _ (blk_lt x1) (fun h => h)).trans x1) ((kk.block _ (blk_lt x0) (fun h => h)).trans x0) i hi).mono ?_
      rintro e w' ⟨rfl, rfl⟩
      exact ⟨rfl, 1, #[], by rw [grow_empty]; rfl⟩)
    (fun a c hac hc ha => by
      have m1 := mono a (by omega)
      have m2 := mono c (by omega)
      simp only [decide_eq_true_eq] at ha ⊢
      omega)
  rw [count_part hS ns (by omega) (j + 1) (by have := hj.lt; omega) mono] at SE
  change Calls Tryz.prog 45 _ _ _ at SE
  have c0 := T2.c0
  have HK := hide K2
  have ej : IntKind.i64.wrap (((j + 1 : Nat) : Int) - 1) = (j : Int) := by rw [IntKind.wrap_i64]; have := hj.lt; omega
  subst hW
  have hjl := hj.lt
  have j0 : (0 : Int) ≤ (j : Int) := by omega
  have j1 : (j : Int) ≤ 1000000 := by omega
  clear T2 h x0 x1 K2 mono hj hS hl hjl
  go_enter Tryz.func58, Tryz.ntmps58
  go_wp2_with (go_at_call 45; refine SE.mono ?_; rintro e w' ⟨rfl, q, os, rfl⟩)
  go_ret
  exact ⟨by first | rfl | (congr 2; omega), HK.out.andNu (kp_grow _ _ _)⟩
end Go.Proofs.YtbifmcadllilhaaGreat.Rg
namespace Go.Proofs.YtbifmcadllilhaaGreat.Rg
open Go.RowKit Go.Shelf Go.Sort
set_option linter.unusedVariables false
/-- node m has height d in a tree of height D -/
def Nd (D d m : Nat) : Prop := ∃ e, e + d = D ∧ 2 ^ e ≤ m ∧ m < 2 ^ (e + 1)
theorem Nd.lo {D d m : Nat} (h : Nd D d m) : 2 ^ D ≤ m * 2 ^ d := by
  obtain ⟨e, rfl, h1, _⟩ := h
  rw [Nat.pow_add]
  exact Nat.mul_le_mul_right _ h1
theorem Nd.hi {D d m : Nat} (h : Nd D d m) : (m + 1) * 2 ^ d ≤ 2 * 2 ^ D := by
  obtain ⟨e, rfl, _, h2⟩ := h
  have : (m + 1) * 2 ^ d ≤ 2 ^ (e + 1) * 2 ^ d := Nat.mul_le_mul_right _ h2
  rw [Nat.pow_succ, Nat.mul_comm (2 ^ e) 2, Nat.mul_assoc, ← Nat.pow_add] at this
  exact this
theorem Nd.left {D d m : Nat} (h : Nd D (d + 1) m) : Nd D d (2 * m) := by
  obtain ⟨e, h0, h1, h2⟩ := h
  have e2 : 2 ^ (e + 1) = 2 * 2 ^ e := by rw [Nat.pow_succ]; omega
  have e3 : 2 ^ (e + 1 + 1) = 2 * 2 ^ (e + 1) := by rw [Nat.pow_succ 2 (e + 1)]; omega
  exact ⟨e + 1, by omega, by omega, by omega⟩
theorem Nd.right {D d m : Nat} (h : Nd D (d + 1) m) : Nd D d (2 * m + 1) := by
  obtain ⟨e, h0, h1, h2⟩ := h
  have e2 : 2 ^ (e + 1) = 2 * 2 ^ e := by rw [Nat.pow_succ]; omega
  have e3 : 2 ^ (e + 1 + 1) = 2 * 2 ^ (e + 1) := by rw [Nat.pow_succ 2 (e + 1)]; omega
  exact ⟨e + 1, by omega, by omega, by omega⟩
theorem Nd.up {D d m i : Nat} (h : Nd D d m) (hi : m / 2 = i) (h0 : 0 < i) : Nd D (d + 1) i := by
  obtain ⟨e, h0, h1, h2⟩ := h
  cases e with
  | zero => simp at h1 h2; omega
  | succ e =>
    have e2 : 2 ^ (e + 1) = 2 * 2 ^ e := by rw [Nat.pow_succ]; omega
    have e3 : 2 ^ (e + 1 + 1) = 2 * 2 ^ (e + 1) := by rw [Nat.pow_succ 2 (e + 1)]; omega
    exact ⟨e, by omega, by omega, by omega⟩
theorem pow_lt_of {a b : Nat} (h : 2 ^ a < 2 ^ b) : a < b := by
  rcases Nat.lt_or_ge a b with c | c
  · exact c
  · have := Nat.pow_le_pow_right (n := 2) (by omega) c; omega
theorem Nd.leaf {D d m : Nat} (h : Nd D d m) (hm : 2 ^ D ≤ m) : d = 0 := by
  obtain ⟨e, h0, h1, h2⟩ := h
  have := pow_lt_of (a := D) (b := e + 1) (by omega)
  omega
theorem Nd.inner {D d m : Nat} (h : Nd D d m) (hm : m < 2 ^ D) : ∃ d', d = d' + 1 := by
  obtain ⟨e, h0, h1, h2⟩ := h
  have := pow_lt_of (a := e) (b := D) (by omega)
  exact ⟨d - 1, by omega⟩
theorem nd_leaf {D m : Nat} (h1 : 2 ^ D ≤ m) (h2 : m < 2 * 2 ^ D) : Nd D 0 m := ⟨D, rfl, h1, by rw [Nat.pow_succ]; omega⟩
theorem nd_root (D : Nat) : Nd D D 1 := ⟨0, by omega, by simp, by simp⟩
/-- the nodes above i say what the leaves below them say -/
def Gth (D : Nat) (t : List Int) (i : Nat) : Prop := ∀ d m, i < m → Nd D d m → Mxd t d m ∧ ∀ q, q < 2 ^ d → who t d m q = gt t (m * 2 ^ d + q)
theorem Gth.start {D : Nat} {t : List Int} (h : ∀ k, 2 ^ D ≤ k → gt t k ≠ 255) : Gth D t (2 ^ D - 1) := fun d m hm hn => by
  have hp := Nat.two_pow_pos D
  obtain rfl := hn.leaf (by omega)
  refine ⟨h m (by omega), fun q hq => ?_⟩
  simp at hq
  subst hq
  simp [who]
theorem Gth.step {D : Nat} {t t' : List Int} {i : Nat} (h : Gth D t i) (h0 : 0 < i) (hi : i < 2 ^ D) (hs : ∀ k, k ≠ i → gt t' k = gt t k) (hv : gt t' i = gv t i) : Gth D t' (i - 1) := fun d m hm hn => by
  have leaf : ∀ q, gt t' (m * 2 ^ d + q) = gt t (m * 2 ^ d + q) := fun q => hs _ (by have := hn.lo; omega)
  by_cases c : m = i
  · subst c
    obtain ⟨e, rfl⟩ := hn.inner hi
    have e2 : 2 ^ (e + 1) = 2 ^ e + 2 ^ e := by rw [Nat.pow_succ]; omega
    obtain ⟨l1, l2⟩ := h e (2 * m) (by omega) hn.left
    obtain ⟨r1, r2⟩ := h e (2 * m + 1) (by omega) hn.right
    refine ⟨mxd_gather h0 hs hv l1 r1, fun q hq => ?_⟩
    rw [leaf, who_gather h0 hs hv]
    have e3 : m * 2 ^ (e + 1) = 2 * m * 2 ^ e := by rw [e2, ← Nat.two_mul, ← Nat.mul_assoc, Nat.mul_comm m 2]
    by_cases c : q < 2 ^ e
    · rw [if_pos c, l2 q c, e3]
    · rw [if_neg c, r2 _ (by omega), e3, Nat.add_mul, Nat.one_mul]
      congr 1
      omega
  · obtain ⟨q1, q2⟩ := h d m (by omega) hn
    have same : ∀ k, Below_ d m k → gt t' k = gt t k := fun k hk => hs k (by have := below_gt hk (n := i) (by omega); omega)
    exact ⟨mxd_same same q1, fun q hq => by rw [leaf, who_same same, q2 q hq]⟩
/-- the nodes from i on, whose parents have handed down, say whose the parts are -/
def Lst (D : Nat) (t : List Int) (o : Nat → Int) (i : Nat) : Prop := ∀ d m, i ≤ m → m / 2 < i → Nd D d m → ∀ q, q < 2 ^ d → who t d m q = o (m * 2 ^ d - 2 ^ D + q)
theorem Lst.start {D : Nat} {t : List Int} {o : Nat → Int} (h : ∀ q, q < 2 ^ D → who t D 1 q = o q) : Lst D t o 1 := fun d m h1 h2 hn q hq => by
  obtain rfl : m = 1 := by omega
  obtain ⟨e, e0, e1, e2⟩ := hn
  have : e = 0 := by
    cases e with
    | zero => rfl
    | succ e => have := Nat.two_pow_pos e; rw [Nat.pow_succ] at e1; omega
  subst this
  obtain rfl : d = D := by omega
  rw [h q hq, Nat.one_mul, Nat.sub_self, Nat.zero_add]
theorem Lst.step {D : Nat} {t t' : List Int} {o : Nat → Int} {i : Nat} (h : Lst D t o i) (h0 : 0 < i) (hi : i < 2 ^ D) (hd : Hd t t' i) : Lst D t' o (i + 1) := fun d m h1 h2 hn q hq => by
  by_cases c : m / 2 = i
  · have hu := hn.up c h0
    have hw := h (d + 1) i (by omega) (by omega) hu
    have e2 : 2 ^ (d + 1) = 2 ^ d + 2 ^ d := by rw [Nat.pow_succ]; omega
    have e3 : i * 2 ^ (d + 1) = 2 * i * 2 ^ d := by rw [e2, ← Nat.two_mul, ← Nat.mul_assoc, Nat.mul_comm i 2]
    have lo := hu.lo
    by_cases c2 : m = 2 * i
    · subst c2
      have := hw q (by omega)
      rw [who_hand h0 hd.far hd.mix hd.one, if_pos hq] at this
      rw [this, e3]
    · obtain rfl : m = 2 * i + 1 := by omega
      have := hw (q + 2 ^ d) (by omega)
      rw [who_hand h0 hd.far hd.mix hd.one, if_neg (by omega), Nat.add_sub_cancel] at this
      rw [this, e3]
      rw [e3] at lo
      congr 1
      rw [Nat.add_mul, Nat.one_mul]
      omega
  · have same : ∀ k, Below_ d m k → gt t' k = gt t k := fun k hk => by
      obtain ⟨e, e1, e2, e3⟩ := hk
      refine hd.far k (fun x => ?_) (fun x => ?_)
      all_goals
        cases e with
        | zero => simp at e2 e3; omega
        | succ e =>
          have p := Nat.two_pow_pos e
          have : m * 2 ≤ m * 2 ^ (e + 1) := Nat.mul_le_mul_left _ (by rw [Nat.pow_succ]; omega)
          omega
    rw [who_same same]
    exact h d m (by omega) (by omega) hn q hq
theorem Lst.done {D : Nat} {t : List Int} {o : Nat → Int} (h : Lst D t o (2 ^ D)) {q : Nat} (hq : q < 2 ^ D) : gt t (2 ^ D + q) = o q := by
  have := h 0 (2 ^ D + q) (by omega) (by omega) (nd_leaf (by omega) (by omega)) 0 (by simp)
  simp only [who, Nat.pow_zero, Nat.mul_one, Nat.add_zero] at this
  rw [this]
  congr 1
  omega
end Go.Proofs.YtbifmcadllilhaaGreat.Rg
namespace Go.Proofs.YtbifmcadllilhaaGreat.Rg
open Go.RowKit Go.Shelf Go.Sort
set_option linter.unusedVariables false
/-- areAllBelow at height d -/
def Al90 (B pb g n c wd a b : Nat) (host : Int) (d : Nat) : Prop := ∀ (w : World) (t : List Int) (m f l : Nat), Tr w B pb g n c wd t → 0 < m → (m + 1) * 2 ^ d ≤ n → l + 1 = f + 2 ^ d → l ≤ 1000000 → Mxd t d m →
    Calls Tryz.prog 76 #[.pointer (some ⟨pb, 0, none⟩), nod m f l, .int .i64 (a : Int), .int .i64 (b : Int), .int .u8 host] w fun e w' => Pn.Ans (Alls t d m f a b host) e ∧ Kp Nu w w'
set_option maxRecDepth 100000 in
set_option maxHeartbeats 4000000 in
theorem are90_step (B pb g n c wd : Nat) (hn : n ≤ 1000000) (a b : Nat) (hab : a ≤ b) (host : Int) (d : Nat) (IH : ∀ d', d = d' + 1 → Al90 B pb g n c wd a b host d') : Al90 B pb g n c wd a b host d := by
  intro w t m f l hT hm0 hmn hl hl6 hM
  have mixed : Tryz.prog.follows .mixedOrders = true := by kernel_rfl
  obtain ⟨w1, hw1⟩ : ∃ w1, w.alloc (.cells #[.int .i64 (m : Int), .int .i64 (f : Int), .int .i64 (l : Int)] 141) = w1 := ⟨_, rfl⟩
  have kA : Kp Nu w w1 := by rw [← hw1]; exact Kp.alloc _ _ _
  have bA : w1.heap[w.heap.size]? = some (.cells #[.int .i64 (m : Int), .int .i64 (f : Int), .int .i64 (l : Int)] 141 (0, 0)) := by rw [← hw1]; exact heap_alloc_new w _
  have hp := Nat.two_pow_pos d
  have hmN : m < n := by
    have : (m + 1) * 1 ≤ (m + 1) * 2 ^ d := Nat.mul_le_mul_left _ hp
    omega
  obtain ⟨y0, y1, y2⟩ := cell3 bA
  have HB := hide bA
  have HT := hide (hT.nu kA)
  have HK := hide kA
  have HM := hide hM
  have hm0I : (0 : Int) ≤ (m : Int) := by omega
  have hmNI : (m : Int) < (n : Int) := by omega
  have emN : (m : Int).toNat = m := by omega
  have HF := hide (And.intro hmn (And.intro hl hl6))
  clear hT hM bA kA hmn hl hl6
  go_enter Tryz.func76, Tryz.ntmps76
  go_wp2_with fail
  refine (apart104 _ m f l a b).mono ?_; rintro e w2 ⟨⟨bo, rfl, hbo⟩, hk⟩
  by_cases ha : b < f ∨ l < a
  · obtain rfl : bo = true := hbo.2 ha
    clear hbo
    go_wp2
    go_ret
    exact ⟨⟨true, rfl, by simp; exact alls_apart (by have := HF.out.2.1; omega)⟩, HK.out.andNu hk⟩
  obtain rfl : bo = false := by cases bo with
    | true => exact absurd (hbo.1 rfl) ha
    | false => rfl
  have HA := hide ha
  have HT2 := hide (HT.out.nu hk)
  have HK2 := hide (HK.out.andNu hk)
  have HB2 := hide (box2 HB.out hk)
  obtain ⟨z0, z1, z2⟩ := cell3 HB2.out
  have r1 := HT2.out.row
  obtain ⟨x1, x2⟩ := HT2.out.at_ (k := m) hmN
  clear hbo ha HT HK HB y0 y1 y2 hk
  by_cases he : gt t m = 255
  · have db : (gt t m != 255) = false := by simp [he]
    have HE := hide he
    clear he
    go_wp2_with fail
    go_region
    have k2 : Kp Nu w2 w2.drew := (Kp.refl _ _).drew
    have HT3 := hide (HT2.out.nu k2)
    have HK3 := hide (HK2.out.andNu k2)
    have HB3 := hide (box2 HB2.out k2)
    clear HT2 HK2 HB2 z0 z1 z2 r1 x1 x2 k2
    generalize w2.drew = wd2 at *
    have HT2 := HT3
    have HK2 := HK3
    have HB2 := HB3
    obtain ⟨z0, z1, z2⟩ := cell3 HB2.out
    clear HT3 HK3 HB3
    go_wp2_with fail
    refine (within105 _ m f l a b).mono ?_; rintro e w3 ⟨⟨bo, rfl, hbo⟩, hk⟩
    have HT3 := hide (HT2.out.nu hk)
    have HK3 := hide (HK2.out.andNu hk)
    have HB3 := hide (box2 HB2.out hk)
    obtain ⟨y0, y1, y2⟩ := cell3 HB3.out
    clear HT2 HK2 HB2 z0 z1 z2 hk
    by_cases hi : a ≤ f ∧ l ≤ b
    · obtain rfl : bo = true := hbo.2 hi
      have HI := hide hi
      clear hbo hi
      go_wp2
      go_ret
      exact ⟨⟨false, rfl, by simp; exact alls_mixed HM.out HE.out HI.out.1 (by have := HF.out.2.1; have := HI.out; omega)⟩, HK3.out⟩
    obtain rfl : bo = false := by cases bo with
      | true => exact absurd (hbo.1 rfl) hi
      | false => rfl
    obtain ⟨d', rfl⟩ : ∃ d', d = d' + 1 := by
      cases d with
      | zero => have := HF.out.2.1; have := HA.out; simp at this ⊢; omega
      | succ d' => exact ⟨d', rfl⟩
    have I := IH d' rfl
    clear hbo hi IH
    have e2 : 2 ^ (d' + 1) = 2 ^ d' + 2 ^ d' := by rw [Nat.pow_succ]; omega
    have hp' := Nat.two_pow_pos d'
    obtain ⟨hmn', hl', hl6'⟩ := HF.out
    have hmn2 : (2 * m + 1 + 1) * 2 ^ d' ≤ n := by
      have : (m + 1) * 2 ^ (d' + 1) = (2 * m + 1 + 1) * 2 ^ d' := by rw [e2, ← Nat.two_mul, ← Nat.mul_assoc, show (m + 1) * 2 = 2 * m + 1 + 1 by omega]
      omega
    have hmn1 : (2 * m + 1) * 2 ^ d' ≤ n := Nat.le_trans (Nat.mul_le_mul_right _ (by omega)) hmn2
    obtain ⟨x, hx⟩ : ∃ x, x + 1 = f + 2 ^ d' := ⟨f + 2 ^ d' - 1, by omega⟩
    obtain ⟨m1, hm1⟩ : ∃ k, k = 2 * m := ⟨_, rfl⟩
    obtain ⟨m2, hm2⟩ : ∃ k, k = 2 * m + 1 := ⟨_, rfl⟩
    obtain ⟨x1, hx1⟩ : ∃ k, k = x + 1 := ⟨_, rfl⟩
    have HH := fun w => halves_n w m f l m1 m2 x x1 hm1 hm2 hx1 (by omega) (by omega) (by omega) (by omega)
    have I1 : Hid (∀ w, Tr w B pb g n c wd t → Calls Tryz.prog 76 #[.pointer (some ⟨pb, 0, none⟩), nod m1 f x, .int .i64 (a : Int), .int .i64 (b : Int), .int .u8 host] w fun e w' => Pn.Ans (Alls t d' (2 * m) f a b host) e ∧ Kp Nu w w') :=
      hide (fun w hT => by rw [hm1]; exact I w t (2 * m) f x hT (by omega) hmn1 hx (by omega) (mxd_left HM.out HE.out))
    have I2 : Hid (∀ w, Tr w B pb g n c wd t → Calls Tryz.prog 76 #[.pointer (some ⟨pb, 0, none⟩), nod m2 x1 l, .int .i64 (a : Int), .int .i64 (b : Int), .int .u8 host] w fun e w' => Pn.Ans (Alls t d' (2 * m + 1) (f + 2 ^ d') a b host) e ∧ Kp Nu w w') :=
      hide (fun w hT => by rw [hm2, hx1, hx]; exact I w t (2 * m + 1) (f + 2 ^ d') l hT (by omega) hmn2 (by omega) (by omega) (mxd_right HM.out HE.out))
    have HN : Hid (Alls t (d' + 1) m f a b host ↔ Alls t d' (2 * m) f a b host ∧ Alls t d' (2 * m + 1) (f + 2 ^ d') a b host) := hide (alls_node HE.out)
    clear hmn1 hmn2 hl' hl6' hx e2 hmn' I hm1 hm2 hx1
    go_wp2_with fail
    refine (HH _).mono ?_; rintro e w5 ⟨rfl, hk5⟩
    obtain ⟨w6, hw6⟩ : ∃ w6, (w5.alloc (.cells #[.int .i64 (m1 : Int), .int .i64 (f : Int), .int .i64 (x : Int)] 141)).alloc (.cells #[.int .i64 (m2 : Int), .int .i64 (x1 : Int), .int .i64 (l : Int)] 141) = w6 := ⟨_, rfl⟩
    have k56 : Kp Nu w5 w6 := by rw [← hw6]; exact (Kp.alloc _ _ _).andAlloc _
    have bL : w6.heap[w5.heap.size]? = some (.cells #[.int .i64 (m1 : Int), .int .i64 (f : Int), .int .i64 (x : Int)] 141 (0, 0)) := by rw [← hw6]; exact box2 (heap_alloc_new w5 _) (Kp.alloc _ _ Nu)
    have bU : w6.heap[w5.heap.size + 1]? = some (.cells #[.int .i64 (m2 : Int), .int .i64 (x1 : Int), .int .i64 (l : Int)] 141 (0, 0)) := by
      rw [← hw6]
      have q := heap_alloc_new (w5.alloc (.cells #[.int .i64 (m1 : Int), .int .i64 (f : Int), .int .i64 (x : Int)] 141)) (.cells #[.int .i64 (m2 : Int), .int .i64 (x1 : Int), .int .i64 (l : Int)] 141)
      simp only [World.size_alloc] at q
      exact q
    have HT5 := hide (HT3.out.nu (hk5.andNu k56))
    have HK5 := hide (HK3.out.andNu (hk5.andNu k56))
    have HU := hide bU
    obtain ⟨l0, l1, l2⟩ := cell3 bL
    obtain ⟨u0, u1, u2⟩ := cell3 bU
    clear y0 y1 y2 HB3 hk5 HH HT3 HK3 k56 bL bU
    go_wp2_with fail
    refine (I1.out _ HT5.out).mono ?_; rintro e w6 ⟨⟨b1, rfl, hb1⟩, hk6⟩
    have HT6 := hide (HT5.out.nu hk6)
    have HK6 := hide (HK5.out.andNu hk6)
    have HB1 := hide hb1
    have bU6 := box2 HU.out hk6
    clear hk6 hb1 l0 l1 l2 u0 u1 u2
    obtain ⟨u0, u1, u2⟩ := cell3 bU6
    clear bU6
    cases b1 with
    | false =>
      go_wp2
      go_ret
      exact ⟨⟨false, rfl, by simp; intro h; have := HB1.out.2 (HN.out.1 h).1; cases this⟩, HK6.out⟩
    | true =>
      go_wp2_with fail
      refine (I2.out _ HT6.out).mono ?_; rintro e w7 ⟨⟨b2, rfl, hb2⟩, hk7⟩
      have HK7 := hide (HK6.out.andNu hk7)
      have HB2 := hide hb2
      clear hb2 hk7
      go_wp2
      go_ret
      exact ⟨⟨b2, rfl, by rw [HN.out]; constructor
                          · intro h; exact ⟨HB1.out.1 (by first | trivial | rfl), HB2.out.1 h⟩
                          · intro h; exact HB2.out.2 h.2⟩, HK7.out⟩
  · have db : (gt t m != 255) = true := by simpa using he
    have HE : Hid (Alls t d m f a b host ↔ gt t m = host) := hide (alls_one he hab (by have := HF.out.2.1; have := HA.out; omega))
    clear he
    by_cases hq : gt t m = host
    · have dq : (gt t m == host) = true := by simpa using hq
      go_wp2_with fail
      go_region
      go_wp2_with fail
      go_region
      go_wp2
      go_ret
      exact ⟨⟨true, rfl, by rw [HE.out]; simp [hq]⟩, HK2.out.drew.drew⟩
    · have dq : (gt t m == host) = false := by simpa using hq
      go_wp2_with fail
      go_region
      go_wp2_with fail
      go_region
      go_wp2
      go_ret
      exact ⟨⟨false, rfl, by rw [HE.out]; simp [hq]⟩, HK2.out.drew.drew⟩
theorem are90 (B pb g n c wd : Nat) (hn : n ≤ 1000000) (a b : Nat) (hab : a ≤ b) (host : Int) : ∀ d, Al90 B pb g n c wd a b host d
  | 0 => are90_step B pb g n c wd hn a b hab host 0 (fun _ e => by omega)
  | d + 1 => are90_step B pb g n c wd hn a b hab host (d + 1) (fun d' e => by cases e; exact are90 B pb g n c wd hn a b hab host d)
end Go.Proofs.YtbifmcadllilhaaGreat.Rg
namespace Go.Proofs.YtbifmcadllilhaaGreat.Rg
open Go.RowKit Go.Shelf Go.Sort
set_option linter.unusedVariables false
theorem give92 (B pb g n c wd : Nat) (hn : n ≤ 1000000) (a b : Nat) (host : Int) (hh : host ≠ 255) : ∀ d, Gv92 B pb g n c wd a b host d
  | 0 => give92_step B pb g n c wd hn a b host hh 0 (fun _ e => by omega)
  | d + 1 => give92_step B pb g n c wd hn a b host hh (d + 1) (fun d' e => by cases e; exact give92 B pb g n c wd hn a b host hh d)
/-- whose the parts are, as the tree has it -/
structure OwT (w : World) (B pb g c D : Nat) (o : Nat → Int) (t : List Int) : Prop where
  tr : Tr w B pb g (2 * 2 ^ D) c (2 ^ D) t
  mxd : Mxd t D 1
  who : ∀ q, q < 2 ^ D → who t D 1 q = o q
theorem OwT.nu {w w' : World} {B pb g c D : Nat} {o : Nat → Int} {t : List Int} (h : OwT w B pb g c D o t) (k : Kp Nu w w') : OwT w' B pb g c D o t := ⟨h.tr.nu k, h.mxd, h.who⟩
set_option maxRecDepth 100000 in
set_option maxHeartbeats 1000000 in
theorem root91 (w : World) (B pb g n c wd : Nat) (t : List Int) (hT : Tr w B pb g n c wd t) (h1 : 1 ≤ wd) (h2 : wd ≤ 1000000) :
    Calls Tryz.prog 77 #[.pointer (some ⟨pb, 0, none⟩)] w fun e w' => e = .returned (nod 1 0 (wd - 1)) ∧ Kp Nu w w' := by
  have mixed : Tryz.prog.follows .mixedOrders = true := by kernel_rfl
  have c0 := hT.wid
  have e1 : IntKind.i64.wrap ((wd : Int) - 1) = ((wd - 1 : Nat) : Int) := by rw [IntKind.wrap_i64]; omega
  have e2 : (wd : Int) - 1 = ((wd - 1 : Nat) : Int) := by omega
  have w0 : (1 : Int) ≤ (wd : Int) := by omega
  have w1 : (wd : Int) ≤ 1000000 := by omega
  obtain ⟨w1, hw1⟩ : ∃ w1, w.alloc (.cells #[.int .i64 0, .int .i64 0, .int .i64 0] 141) = w1 := ⟨_, rfl⟩
  have kA : Kp Nu w w1 := by rw [← hw1]; exact Kp.alloc _ _ _
  have bA : w1.heap[w.heap.size]? = some (.cells #[.int .i64 0, .int .i64 0, .int .i64 0] 141 (0, 0)) := by rw [← hw1]; exact heap_alloc_new w _
  have c1 := cell_nu c0 kA
  obtain ⟨y0, y1, y2⟩ := cell3 bA
  have f0 := free3 bA 0
  have f1 := free3 bA 1
  have f2 := free3 bA 2
  obtain ⟨v, hv⟩ : ∃ v : Nat, v = wd - 1 := ⟨_, rfl⟩
  rw [← hv] at e1 e2 ⊢
  have HK := hide (And.intro kA bA)
  clear hT kA bA c0 hv
  go_enter Tryz.func77, Tryz.ntmps77
  go_wp2
  obtain ⟨kA, bA⟩ := HK.out
  have B1 := set3 bA 0 (.int .i64 1)
  have B2 := set3 B1 1 (.int .i64 0)
  have B3 := set3 B2 2 (.int .i64 (v : Int))
  have K1 := ((kA.andSet ⟨w.heap.size, 0, none⟩ (.int .i64 1) (.inl (Nat.le_refl _))).andSet ⟨w.heap.size, 1, none⟩ (.int .i64 0) (.inl (Nat.le_refl _))).andSet ⟨w.heap.size, 2, none⟩ (.int .i64 (v : Int)) (.inl (Nat.le_refl _))
  generalize ((w1.setCell ⟨w.heap.size, 0, none⟩ (.int .i64 1)).setCell ⟨w.heap.size, 1, none⟩ (.int .i64 0)).setCell ⟨w.heap.size, 2, none⟩ (.int .i64 (v : Int)) = w2 at *
  obtain ⟨p0, p1, p2⟩ := cell3 B3
  first
    | exact bodyPost_ret (v := nod 1 0 v) (by simp [results, Tryz.results77, go_sem, p0, p1, p2]) rfl ⟨rfl, K1⟩
    | exact bodyPost_ret (v := nod 1 0 v) (by simp [results, Tryz.results77, go_sem, p0, p1, p2]) rfl ⟨rfl, K1.drew⟩
    | trace_state
set_option maxRecDepth 100000 in
set_option maxHeartbeats 1000000 in
theorem areAll63 (w : World) (B pb g c D : Nat) (o : Nat → Int) (t : List Int) (h : OwT w B pb g c D o t) (hD : 2 * 2 ^ D ≤ 1000000) (a b : Nat) (hab : a ≤ b) (hb : b < 2 ^ D) (host : Int) :
    Calls Tryz.prog 59 #[.pointer (some ⟨pb, 0, none⟩), .int .i64 (a : Int), .int .i64 (b : Int), .int .u8 host] w fun e w' => Pn.Ans (∀ j, a ≤ j → j ≤ b → o j = host) e ∧ Kp Nu w w' := by
  have mixed : Tryz.prog.follows .mixedOrders = true := by kernel_rfl
  have hp := Nat.two_pow_pos D
  have RT := root91 w B pb g _ c _ t h.tr hp (by omega)
  have AL := fun w' (k : Kp Nu w w') => are90 B pb g (2 * 2 ^ D) c (2 ^ D) hD a b hab host D w' t 1 0 (2 ^ D - 1) (h.tr.nu k) (by omega) (by omega) (by omega) (by omega) h.mxd
  have HE : Hid (Alls t D 1 0 a b host ↔ ∀ j, a ≤ j → j ≤ b → o j = host) := hide (by
    constructor
    · intro hA j j1 j2
      rw [← h.who j (by omega)]
      exact hA j (by omega) (by omega) (by omega)
    · intro hA q q1 q2 q3
      rw [h.who q q1]
      exact hA q (by omega) (by omega))
  clear h
  go_enter Tryz.func59, Tryz.ntmps59
  go_wp2_with (first | (go_at_call 77; refine RT.mono ?_; rintro e w2 ⟨rfl, hk2⟩) | (go_at_call 76; refine (AL _ hk2).mono ?_; rintro e w3 ⟨⟨bo, rfl, hbo⟩, hk3⟩))
  go_ret
  exact ⟨⟨bo, rfl, by rw [hbo]; exact HE.out⟩, hk2.andNu hk3⟩
set_option maxRecDepth 100000 in
set_option maxHeartbeats 1000000 in
theorem give64 (w : World) (B pb g c D : Nat) (o : Nat → Int) (t : List Int) (h : OwT w B pb g c D o t) (hD : 2 * 2 ^ D ≤ 1000000) (a b : Nat) (host : Int) (hh : host ≠ 255) :
    Calls Tryz.prog 60 #[.pointer (some ⟨pb, 0, none⟩), .int .i64 (a : Int), .int .i64 (b : Int), .int .u8 host] w fun e w' => e = .returned (.tuple #[]) ∧ ∃ t', OwT w' B pb g c D (fun j => if a ≤ j ∧ j ≤ b then host else o j) t' ∧ Kp (fun k => k = g) w w' := by
  have mixed : Tryz.prog.follows .mixedOrders = true := by kernel_rfl
  have hp := Nat.two_pow_pos D
  have RT := root91 w B pb g _ c _ t h.tr hp (by omega)
  have GV := fun w' (k : Kp Nu w w') => give92 B pb g (2 * 2 ^ D) c (2 ^ D) hD a b host hh D w' t 1 0 (2 ^ D - 1) (h.tr.nu k) (by omega) (by omega) (by omega) (by omega) h.mxd
  have HW := hide h.who
  clear h
  go_enter Tryz.func60, Tryz.ntmps60
  go_wp2_with (first | (go_at_call 77; refine RT.mono ?_; rintro e w2 ⟨rfl, hk2⟩) | (go_at_call 78; refine (GV _ hk2).mono ?_; rintro e w3 ⟨rfl, t', hT, hG, hk3⟩))
  go_end0
  refine ⟨rfl, t', ⟨hT, hG.mxd, fun q hq => ?_⟩, (hk2.mono (fun _ _ e => e.elim)).trans hk3 (fun _ _ e => e)⟩
  rw [hG.now q hq, HW.out q hq, Nat.zero_add]
end Go.Proofs.YtbifmcadllilhaaGreat.Rg
namespace Go.Proofs.YtbifmcadllilhaaGreat.Rg
open Go.RowKit Go.Shelf Go.Sort
set_option linter.unusedVariables false
set_option maxRecDepth 100000 in
set_option maxHeartbeats 4000000 in
theorem list65 (w : World) (B pb g c D P : Nat) (o : Nat → Int) (t : List Int) (h : OwT w B pb g c D o t) (hD : 2 * 2 ^ D ≤ 1000000) (hP0 : 0 < P) (hP : P ≤ 2 ^ D) :
    Calls Tryz.prog 61 #[.pointer (some ⟨pb, 0, none⟩), .int .i64 (P : Int)] w fun e w' => e = .returned (.slice (some ⟨g, 2 ^ D, none⟩) P (c - 2 ^ D)) ∧ ∃ t', Tr w' B pb g (2 * 2 ^ D) c (2 ^ D) t' ∧ (∀ q, q < P → gt t' (2 ^ D + q) = o q) ∧ Kp (fun k => k = g) w w' := by
  have mixed : Tryz.prog.follows .mixedOrders = true := by kernel_rfl
  have hp := Nat.two_pow_pos D
  have hcn : 2 * 2 ^ D ≤ c := by
    rcases h.tr.own.2 with ⟨e0, _⟩ | ⟨g', cap', cur, e0, _, _, h1, _⟩
    · cases e0
    · cases e0; exact h1
  obtain ⟨wd, hwd⟩ : ∃ wd, wd = 2 ^ D := ⟨_, rfl⟩
  obtain ⟨n, hn⟩ : ∃ n, n = 2 * wd := ⟨_, rfl⟩
  have hT := h.tr
  have HL := hide (Lst.start h.who)
  rw [← hwd, ← hn] at hT
  rw [← hwd] at hcn hP hD hp ⊢
  rw [← hn] at hcn hD ⊢
  have HD := hide hwd
  have HT := hide hT
  clear hT h hwd
  have hw0 : (1 : Int) ≤ (wd : Int) := by omega
  have hw1 : (wd : Int) ≤ 1000000 := by omega
  have HN := hide hn
  have hN1 : n ≤ 1000000 := hD
  go_enter Tryz.func61, Tryz.ntmps61
  go_wp2
  go_loopw [5] (fun iv wr => ∃ i : Nat, iv = .int .i64 (i : Int) ∧ 1 ≤ i ∧ i ≤ wd ∧ Hid (∃ t', Tr wr B pb g n c wd t' ∧ Lst D t' o i ∧ Kp (fun k => k = g) w wr)) (fun iv _ => wd - (intOf iv).toNat)
  case atStart => exact ⟨1, rfl, by omega, by omega, hide ⟨t, HT.out, HL.out, Kp.refl _ _⟩⟩
  case round =>
    obtain ⟨i, rfl, hi1, hi2, hI⟩ := hrel
    obtain ⟨t', h1, h2, h3⟩ := hI.out
    have c0 := h1.wid
    have c1 := h1.row
    have hi0 : (0 : Int) ≤ (i : Int) := by omega
    by_cases hlt : i < wd
    · have hltI : (i : Int) < (wd : Int) := by omega
      have HA := hand93 wr B pb g n c wd t' i h1 (by omega) (by have := HN.out; omega) hN1
      have HJ := hide (And.intro h2 h3)
      clear hI h1 h2 h3
      go_wp2_with fail
      refine HA.mono ?_; rintro e w4 ⟨rfl, t2, hT2, hH, hk4⟩
      have HQ := hide (And.intro hT2 (And.intro hH hk4))
      clear hT2 hH hk4 HA
      go_wp2
      obtain ⟨hT2, hH, hk4⟩ := HQ.out
      exact ⟨⟨i + 1, by go_num, by omega, by omega, hide ⟨t2, hT2, HJ.out.1.step (by omega) (by rw [← HD.out]; omega) hH, HJ.out.2.trans hk4 (fun _ _ e => e)⟩⟩, by simp [intOf]; omega⟩
    · have hltI : ¬ (i : Int) < (wd : Int) := by omega
      have ei : i = wd := by omega
      have f1 : IntKind.i64.wrap ((wd : Int) + (P : Int)) = (wd : Int) + (P : Int) := by rw [IntKind.wrap_i64]; omega
      have f2 : (0 : Int) ≤ (wd : Int) := by omega
      have f3 : (wd : Int) ≤ (wd : Int) + (P : Int) := by omega
      have f4 : (wd : Int) + (P : Int) ≤ (n : Int) := by have := HN.out; omega
      have f5 : (wd : Int) + (P : Int) ≤ (c : Int) := by omega
      have f6 : (wd : Int).toNat = wd := by omega
      have f7 : ((wd : Int) + (P : Int)).toNat = wd + P := by omega
      have f8 : ((wd : Int) + (P : Int) - (wd : Int)).toNat = P := by omega
      have f9 : ¬ c = wd := by omega
      have HJ := hide (And.intro h1 (And.intro h2 (And.intro h3 ei)))
      clear hI h1 h2 h3 ei
      go_wp2_with fail
      go_region
      go_wp2
      go_ret
      obtain ⟨h1, h2, h3, ei⟩ := HJ.out
      refine ⟨rfl, t', h1.drew, fun q hq => ?_, h3.drew⟩
      rw [ei] at h2
      have := HD.out
      rw [this] at h2 ⊢
      exact h2.done (by omega)
end Go.Proofs.YtbifmcadllilhaaGreat.Rg
