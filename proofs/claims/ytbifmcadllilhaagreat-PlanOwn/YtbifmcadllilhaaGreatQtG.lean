import Derived.Test.YtbifmcadllilhaaGreatQtD
import Derived.Test.YtbifmcadllilhaaGreatPdE
namespace Go.Proofs.YtbifmcadllilhaaGreat.Rg
open Go.RowKit Go.Shelf Go.Sort
set_option linter.unusedVariables false
/-- where a node says mixed, the places below it are not all one host's -/
def Mxd (t : List Int) : Nat → Nat → Prop
  | 0, n => gt t n ≠ 255
  | d + 1, n => gt t n ≠ 255 ∨ (Mxd t d (2 * n) ∧ Mxd t d (2 * n + 1) ∧ ∀ h, ∃ q, q < 2 ^ (d + 1) ∧ who t (d + 1) n q ≠ h)
theorem mxd_one {t : List Int} {n : Nat} (h : gt t n ≠ 255) : ∀ d, Mxd t d n
  | 0 => h
  | d + 1 => .inl h
theorem mxd_mixed {t : List Int} {d n : Nat} (h : Mxd t d n) (e : gt t n = 255) (x : Int) : ∃ q, q < 2 ^ d ∧ who t d n q ≠ x := by
  cases d with
  | zero => exact absurd e h
  | succ d =>
    rcases h with h | h
    · exact absurd e h
    · exact h.2.2 x
theorem mxd_same {t t' : List Int} : ∀ {d n : Nat}, (∀ k, Below_ d n k → gt t' k = gt t k) → Mxd t d n → Mxd t' d n
  | 0, n, h, hm => by unfold Mxd at hm ⊢; rw [h n (below_self _ _)]; exact hm
  | d + 1, n, h, hm => by
    unfold Mxd at hm ⊢
    rw [h n (below_self _ _)]
    rcases hm with hm | ⟨h1, h2, h3⟩
    · exact .inl hm
    · refine .inr ⟨mxd_same (fun k hk => h k (below_left hk)) h1, mxd_same (fun k hk => h k (below_right hk)) h2, fun x => ?_⟩
      obtain ⟨q, q1, q2⟩ := h3 x
      exact ⟨q, q1, by rw [who_same h]; exact q2⟩
theorem mxd_left {t : List Int} {d n : Nat} (h : Mxd t (d + 1) n) (e : gt t n = 255) : Mxd t d (2 * n) := by
  rcases h with h | h
  · exact absurd e h
  · exact h.1
theorem mxd_right {t : List Int} {d n : Nat} (h : Mxd t (d + 1) n) (e : gt t n = 255) : Mxd t d (2 * n + 1) := by
  rcases h with h | h
  · exact absurd e h
  · exact h.2.1
theorem mxd_gather {t t' : List Int} {d n : Nat} (hn : 0 < n) (hs : ∀ k, k ≠ n → gt t' k = gt t k) (hv : gt t' n = gv t n) (hl : Mxd t d (2 * n)) (hr : Mxd t d (2 * n + 1)) : Mxd t' (d + 1) n := by
  have hp := Nat.two_pow_pos d
  have e2 : 2 ^ (d + 1) = 2 ^ d + 2 ^ d := by rw [Nat.pow_succ]; omega
  have hw := fun q => who_gather (d := d) hn hs hv q
  unfold gv at hv
  unfold Mxd
  have L : Mxd t' d (2 * n) := mxd_same (fun k hk => hs k (by have := below_gt hk (n := n) (by omega); omega)) hl
  have R : Mxd t' d (2 * n + 1) := mxd_same (fun k hk => hs k (by have := below_gt hk (n := n) (by omega); omega)) hr
  have useL : gt t (2 * n) = 255 → ∀ h, ∃ q, q < 2 ^ (d + 1) ∧ who t' (d + 1) n q ≠ h := fun e h => by
    obtain ⟨q, q1, q2⟩ := mxd_mixed hl e h
    exact ⟨q, by omega, by rw [hw, if_pos q1]; exact q2⟩
  have useR : gt t (2 * n + 1) = 255 → ∀ h, ∃ q, q < 2 ^ (d + 1) ∧ who t' (d + 1) n q ≠ h := fun e h => by
    obtain ⟨q, q1, q2⟩ := mxd_mixed hr e h
    exact ⟨q + 2 ^ d, by omega, by rw [hw, if_neg (by omega), Nat.add_sub_cancel]; exact q2⟩
  by_cases c : gt t (2 * n) = gt t (2 * n + 1)
  · rw [if_neg (by simp [c])] at hv
    by_cases e : gt t (2 * n) = 255
    · exact .inr ⟨L, R, useL e⟩
    · exact .inl (by rw [hv]; exact e)
  · refine .inr ⟨L, R, ?_⟩
    by_cases e : gt t (2 * n) = 255
    · exact useL e
    by_cases f : gt t (2 * n + 1) = 255
    · exact useR f
    intro h
    by_cases g : gt t (2 * n) = h
    · exact ⟨2 ^ d, by omega, by rw [hw, if_neg (by omega), who_all f]; rw [← g]; exact fun x => c x.symm⟩
    · exact ⟨0, by omega, by rw [hw, if_pos hp, who_all e]; exact g⟩
/-- what giving leaves below a node -/
structure Gvn (t t' : List Int) (d m f : Nat) (first last : Nat) (host : Int) : Prop where
  far : ∀ k, ¬ Below_ d m k → gt t' k = gt t k
  mxd : Mxd t' d m
  now : ∀ q, q < 2 ^ d → who t' d m q = if first ≤ f + q ∧ f + q ≤ last then host else who t d m q
theorem Gvn.apart {t : List Int} {d m f first last : Nat} {host : Int} (h : Mxd t d m) (ha : last < f ∨ f + 2 ^ d ≤ first) : Gvn t t d m f first last host :=
  ⟨fun _ _ => rfl, h, fun q hq => by rw [if_neg (by omega)]⟩
theorem Gvn.within {t : List Int} {d m f first last : Nat} {host : Int} (hm : m < t.length) (hh : host ≠ 255) (h1 : first ≤ f) (h2 : f + 2 ^ d ≤ last + 1) : Gvn t (t.set m host) d m f first last host := by
  have g1 : gt (t.set m host) m = host := by rw [gt_set _ _ hm, if_pos rfl]
  exact ⟨fun k hk => by
    have : k ≠ m := fun e => hk (by rw [e]; exact below_self _ _)
    rw [gt_set _ _ hm, if_neg this], mxd_one (by rw [g1]; exact hh) d, fun q hq => by rw [who_all (by rw [g1]; exact hh), g1, if_pos (by omega)]⟩
theorem Gvn.node {t t1 t2 t3 t4 : List Int} {d m f first last : Nat} {host : Int} (hm : 0 < m) (hM : Mxd t (d + 1) m) (h1 : Hd t t1 m) (h2 : Gvn t1 t2 d (2 * m) f first last host) (h3 : Gvn t2 t3 d (2 * m + 1) (f + 2 ^ d) first last host) (h4 : ∀ k, k ≠ m → gt t4 k = gt t3 k) (h5 : gt t4 m = gv t3 m) : Gvn t t4 (d + 1) m f first last host := by
  have e2 : 2 ^ (d + 1) = 2 ^ d + 2 ^ d := by rw [Nat.pow_succ]; omega
  have L3 : Mxd t3 d (2 * m) := mxd_same (fun k hk => h3.far k (fun c => below_apart hm hk c)) h2.mxd
  refine ⟨fun k hk => ?_, mxd_gather hm h4 h5 L3 h3.mxd, fun q hq => ?_⟩
  · have n1 : k ≠ m := fun e => hk (by rw [e]; exact below_self _ _)
    rw [h4 k n1, h3.far k (fun c => hk (below_right c)), h2.far k (fun c => hk (below_left c))]
    exact h1.far k (fun e => hk (by rw [e]; exact below_left (below_self _ _))) (fun e => hk (by rw [e]; exact below_right (below_self _ _)))
  · rw [who_gather hm h4 h5 q, who_hand hm h1.far h1.mix h1.one q]
    by_cases c : q < 2 ^ d
    · rw [if_pos c, if_pos c, who_same (t := t2) (t' := t3) (fun k hk => h3.far k (fun c => below_apart hm hk c)), h2.now q c]
    · rw [if_neg c, if_neg c, h3.now _ (by omega), who_same (t := t1) (t' := t2) (fun k hk => h2.far k (fun c => below_apart hm c hk)), show f + 2 ^ d + (q - 2 ^ d) = f + q by omega]
/-- all places of a run below a node are a host's -/
def Alls (t : List Int) (d m f first last : Nat) (host : Int) : Prop := ∀ q, q < 2 ^ d → first ≤ f + q → f + q ≤ last → who t d m q = host
theorem alls_apart {t : List Int} {d m f first last : Nat} {host : Int} (ha : last < f ∨ f + 2 ^ d ≤ first) : Alls t d m f first last host := fun q h1 h2 h3 => by omega
theorem alls_one {t : List Int} {d m f first last : Nat} {host : Int} (h : gt t m ≠ 255) (hf : first ≤ last) (ha : ¬ (last < f ∨ f + 2 ^ d ≤ first)) : Alls t d m f first last host ↔ gt t m = host := by
  constructor
  · intro hA
    have hp := Nat.two_pow_pos d
    have := hA (max first f - f) (by omega) (by omega) (by omega)
    rw [who_all h] at this
    exact this
  · intro e q _ _ _
    rw [who_all h]; exact e
theorem alls_mixed {t : List Int} {d m f first last : Nat} {host : Int} (hM : Mxd t d m) (h : gt t m = 255) (h1 : first ≤ f) (h2 : f + 2 ^ d ≤ last + 1) : ¬ Alls t d m f first last host := fun hA => by
  obtain ⟨q, q1, q2⟩ := mxd_mixed hM h host
  exact q2 (hA q q1 (by omega) (by omega))
theorem alls_node {t : List Int} {d m f first last : Nat} {host : Int} (h : gt t m = 255) : Alls t (d + 1) m f first last host ↔ Alls t d (2 * m) f first last host ∧ Alls t d (2 * m + 1) (f + 2 ^ d) first last host := by
  have e2 : 2 ^ (d + 1) = 2 ^ d + 2 ^ d := by rw [Nat.pow_succ]; omega
  constructor
  · intro hA
    refine ⟨fun q q1 q2 q3 => ?_, fun q q1 q2 q3 => ?_⟩
    · have := hA q (by omega) q2 q3
      rw [who_mixed h, if_pos q1] at this; exact this
    · have := hA (q + 2 ^ d) (by omega) (by omega) (by omega)
      rw [who_mixed h, if_neg (by omega), Nat.add_sub_cancel] at this; exact this
  · rintro ⟨hL, hR⟩ q q1 q2 q3
    rw [who_mixed h]
    by_cases c : q < 2 ^ d
    · rw [if_pos c]; exact hL q c q2 q3
    · rw [if_neg c]; exact hR _ (by omega) (by omega) (by omega)
theorem Hd.left {t t1 : List Int} {d m : Nat} (h : Hd t t1 m) (hM : Mxd t (d + 1) m) : Mxd t1 d (2 * m) := by
  by_cases e : gt t m = 255
  · have all : ∀ k, gt t1 k = gt t k := fun k => by
      by_cases c1 : k = 2 * m
      · rw [c1]; exact (h.mix e).1
      · by_cases c2 : k = 2 * m + 1
        · rw [c2]; exact (h.mix e).2
        · exact h.far k c1 c2
    exact mxd_same (fun k _ => all k) (mxd_left hM e)
  · exact mxd_one (by rw [(h.one e).1]; exact e) d
theorem Hd.right {t t1 : List Int} {d m : Nat} (h : Hd t t1 m) (hM : Mxd t (d + 1) m) : Mxd t1 d (2 * m + 1) := by
  by_cases e : gt t m = 255
  · have all : ∀ k, gt t1 k = gt t k := fun k => by
      by_cases c1 : k = 2 * m
      · rw [c1]; exact (h.mix e).1
      · by_cases c2 : k = 2 * m + 1
        · rw [c2]; exact (h.mix e).2
        · exact h.far k c1 c2
    exact mxd_same (fun k _ => all k) (mxd_right hM e)
  · exact mxd_one (by rw [(h.one e).2]; exact e) d
theorem Gvn.right {t1 t2 : List Int} {d m f first last : Nat} {host : Int} (hm : 0 < m) (h : Gvn t1 t2 d (2 * m) f first last host) (hM : Mxd t1 d (2 * m + 1)) : Mxd t2 d (2 * m + 1) :=
  mxd_same (fun k hk => h.far k (fun c => below_apart hm c hk)) hM
end Go.Proofs.YtbifmcadllilhaaGreat.Rg
namespace Go.Proofs.YtbifmcadllilhaaGreat.Rg
open Go.RowKit Go.Shelf Go.Sort
set_option linter.unusedVariables false
abbrev nod (m f l : Nat) : Value := .agg #[.int .i64 (m : Int), .int .i64 (f : Int), .int .i64 (l : Int)]
theorem Tr.nu {w w' : World} {B pb g n c wd : Nat} {t : List Int} (h : Tr w B pb g n c wd t) (k : Kp Nu w w') : Tr w' B pb g n c wd t :=
  ⟨own_keep h.own (fun g e => k.block g (own_lt h.own e) (fun h => h)), h.len, h.ne, cell_nu h.wid k, cell_nu h.row k⟩
theorem Tr.lt {w : World} {B pb g n c wd : Nat} {t : List Int} (h : Tr w B pb g n c wd t) : g < w.heap.size := own_lt h.own rfl
set_option maxRecDepth 100000 in
set_option maxHeartbeats 1000000 in
theorem apart104 (w : World) (m f l a b : Nat) :
    Calls Tryz.prog 92 #[nod m f l, .int .i64 (a : Int), .int .i64 (b : Int)] w fun e w' => Pn.Ans (b < f ∨ l < a) e ∧ Kp Nu w w' := by
  have mixed : Tryz.prog.follows .mixedOrders = true := by kernel_rfl
  obtain ⟨w1, hw1⟩ : ∃ w1, w.alloc (.cells #[.int .i64 (m : Int), .int .i64 (f : Int), .int .i64 (l : Int)] 141) = w1 := ⟨_, rfl⟩
  have kA : Kp Nu w w1 := by rw [← hw1]; exact Kp.alloc _ _ _
  have bA : w1.heap[w.heap.size]? = some (.cells #[.int .i64 (m : Int), .int .i64 (f : Int), .int .i64 (l : Int)] 141 (0, 0)) := by rw [← hw1]; exact heap_alloc_new w _
  obtain ⟨y0, y1, y2⟩ := cell3 bA
  have HK := hide kA
  clear bA kA
  by_cases q1 : b < f
  · have q1I : (b : Int) < (f : Int) := by omega
    have d1 : decide ((b : Int) < (f : Int)) = true := by simpa using q1I
    go_enter Tryz.func92, Tryz.ntmps92
    go_wp2
    go_ret
    exact ⟨⟨true, rfl, by simp <;> omega⟩, HK.out⟩
  · have q1I : ¬ (b : Int) < (f : Int) := by omega
    have d1 : decide ((b : Int) < (f : Int)) = false := by simpa using q1I
    by_cases q2 : l < a
    · have q2I : (l : Int) < (a : Int) := by omega
      have d2 : decide ((l : Int) < (a : Int)) = true := by simpa using q2I
      go_enter Tryz.func92, Tryz.ntmps92
      go_wp2
      go_ret
      exact ⟨⟨true, rfl, by simp <;> omega⟩, HK.out⟩
    · have q2I : ¬ (l : Int) < (a : Int) := by omega
      have d2 : decide ((l : Int) < (a : Int)) = false := by simpa using q2I
      go_enter Tryz.func92, Tryz.ntmps92
      go_wp2
      go_ret
      exact ⟨⟨false, rfl, by simp <;> omega⟩, HK.out⟩
set_option maxRecDepth 100000 in
set_option maxHeartbeats 1000000 in
theorem within105 (w : World) (m f l a b : Nat) :
    Calls Tryz.prog 93 #[nod m f l, .int .i64 (a : Int), .int .i64 (b : Int)] w fun e w' => Pn.Ans (a ≤ f ∧ l ≤ b) e ∧ Kp Nu w w' := by
  have mixed : Tryz.prog.follows .mixedOrders = true := by kernel_rfl
  obtain ⟨w1, hw1⟩ : ∃ w1, w.alloc (.cells #[.int .i64 (m : Int), .int .i64 (f : Int), .int .i64 (l : Int)] 141) = w1 := ⟨_, rfl⟩
  have kA : Kp Nu w w1 := by rw [← hw1]; exact Kp.alloc _ _ _
  have bA : w1.heap[w.heap.size]? = some (.cells #[.int .i64 (m : Int), .int .i64 (f : Int), .int .i64 (l : Int)] 141 (0, 0)) := by rw [← hw1]; exact heap_alloc_new w _
  obtain ⟨y0, y1, y2⟩ := cell3 bA
  have HK := hide kA
  clear bA kA
  by_cases q1 : a ≤ f
  · have q1I : (a : Int) ≤ (f : Int) := by omega
    have d1 : decide ((a : Int) ≤ (f : Int)) = true := by simpa using q1I
    by_cases q2 : l ≤ b
    · have q2I : (l : Int) ≤ (b : Int) := by omega
      have d2 : decide ((l : Int) ≤ (b : Int)) = true := by simpa using q2I
      go_enter Tryz.func93, Tryz.ntmps93
      go_wp2
      go_ret
      exact ⟨⟨true, rfl, by simp <;> omega⟩, HK.out⟩
    · have q2I : ¬ (l : Int) ≤ (b : Int) := by omega
      have d2 : decide ((l : Int) ≤ (b : Int)) = false := by simpa using q2I
      go_enter Tryz.func93, Tryz.ntmps93
      go_wp2
      go_ret
      exact ⟨⟨false, rfl, by simp <;> omega⟩, HK.out⟩
  · have q1I : ¬ (a : Int) ≤ (f : Int) := by omega
    have d1 : decide ((a : Int) ≤ (f : Int)) = false := by simpa using q1I
    go_enter Tryz.func93, Tryz.ntmps93
    go_wp2
    go_ret
    exact ⟨⟨false, rfl, by simp <;> omega⟩, HK.out⟩
set_option maxRecDepth 100000 in
set_option maxHeartbeats 1000000 in
theorem halves106 (w : World) (m f l x : Nat) (hx : f + l = 2 * x + 1) (hm : m ≤ 1000000) (hf : f ≤ 1000000) (hl : l ≤ 1000000) :
    Calls Tryz.prog 94 #[nod m f l] w fun e w' => e = .returned (.tuple #[nod (2 * m) f x, nod (2 * m + 1) (x + 1) l]) ∧ Kp Nu w w' := by
  have mixed : Tryz.prog.follows .mixedOrders = true := by kernel_rfl
  obtain ⟨w1, hw1⟩ : ∃ w1, ((w.alloc (.cells #[.int .i64 (m : Int), .int .i64 (f : Int), .int .i64 (l : Int)] 141)).alloc (.cells #[.int .i64 0, .int .i64 0, .int .i64 0] 141)).alloc (.cells #[.int .i64 0, .int .i64 0, .int .i64 0] 141) = w1 := ⟨_, rfl⟩
  have kA : Kp Nu w w1 := by rw [← hw1]; exact ((Kp.alloc _ _ _).andAlloc _).andAlloc _
  have hs1 : w1.heap.size = w.heap.size + 1 + 1 + 1 := by rw [← hw1]; simp only [World.size_alloc]
  have bA : w1.heap[w.heap.size]? = some (.cells #[.int .i64 (m : Int), .int .i64 (f : Int), .int .i64 (l : Int)] 141 (0, 0)) := by rw [← hw1]; exact box2 (heap_alloc_new w _) ((Kp.alloc _ _ Nu).andAlloc _)
  have bB : w1.heap[w.heap.size + 1]? = some (.cells #[.int .i64 0, .int .i64 0, .int .i64 0] 141 (0, 0)) := by
    rw [← hw1]
    have q := heap_alloc_new (w.alloc (.cells #[.int .i64 (m : Int), .int .i64 (f : Int), .int .i64 (l : Int)] 141)) (.cells #[.int .i64 0, .int .i64 0, .int .i64 0] 141)
    simp only [World.size_alloc] at q
    exact box2 q (Kp.alloc _ _ Nu)
  have bC : w1.heap[w.heap.size + 1 + 1]? = some (.cells #[.int .i64 0, .int .i64 0, .int .i64 0] 141 (0, 0)) := by
    rw [← hw1]
    have q := heap_alloc_new ((w.alloc (.cells #[.int .i64 (m : Int), .int .i64 (f : Int), .int .i64 (l : Int)] 141)).alloc (.cells #[.int .i64 0, .int .i64 0, .int .i64 0] 141)) (.cells #[.int .i64 0, .int .i64 0, .int .i64 0] 141)
    simp only [World.size_alloc] at q
    exact q
  obtain ⟨y0, y1, y2⟩ := cell3 bA
  obtain ⟨u0, u1, u2⟩ := cell3 bB
  obtain ⟨v0, v1, v2⟩ := cell3 bC
  have fB0 := free3 bB 0
  have fB1 := free3 bB 1
  have fB2 := free3 bB 2
  have fC0 := free3 bC 0
  have fC1 := free3 bC 1
  have fC2 := free3 bC 2
  have e1 : IntKind.i64.wrap ((f : Int) + (l : Int)) = 2 * (x : Int) + 1 := by rw [IntKind.wrap_i64]; omega
  have e1' : (f : Int) + (l : Int) = 2 * (x : Int) + 1 := by omega
  have e2 : (2 * (x : Int) + 1).tdiv 2 = (x : Int) := by rw [Int.tdiv_eq_ediv_of_nonneg (by omega)]; omega
  have e2' : (2 * (x : Int) + 1) / 2 = (x : Int) := by omega
  have e3 : IntKind.i64.wrap (x : Int) = (x : Int) := by rw [IntKind.wrap_i64]; omega
  obtain ⟨p, hp⟩ : ∃ p : Nat, p = 2 * m := ⟨_, rfl⟩
  have e4 : IntKind.i64.wrap (2 * (m : Int)) = (p : Int) := by rw [IntKind.wrap_i64]; omega
  have e4' : 2 * (m : Int) = (p : Int) := by omega
  have e5 : IntKind.i64.wrap ((p : Int) + 1) = (p : Int) + 1 := by rw [IntKind.wrap_i64]; omega
  have e6 : IntKind.i64.wrap ((x : Int) + 1) = (x : Int) + 1 := by rw [IntKind.wrap_i64]; omega
  have hm0 : (0 : Int) ≤ (m : Int) := by omega
  have hf0 : (0 : Int) ≤ (f : Int) := by omega
  have hl0 : (0 : Int) ≤ (l : Int) := by omega
  have hx0 : (0 : Int) ≤ (x : Int) := by omega
  have hf1 : (f : Int) ≤ 1000000 := by omega
  have hl1 : (l : Int) ≤ 1000000 := by omega
  have HK := hide (And.intro kA (And.intro bB (And.intro bC hp)))
  clear bA kA hx bB bC hp
  go_enter Tryz.func94, Tryz.ntmps94
  go_wp2_with fail
  go_region
  obtain ⟨kA, bB, bC, hp⟩ := HK.out
  have hne : w.heap.size + 1 + 1 ≠ w.heap.size + 1 := by omega
  have B1 := set3 bB 0 (.int .i64 (p : Int))
  have B2 := set3 B1 1 (.int .i64 (f : Int))
  have B3 := set3 B2 2 (.int .i64 (x : Int))
  have K1 := (((Kp.refl (fun k => k = w.heap.size + 1) w1).andSet ⟨w.heap.size + 1, 0, none⟩ (.int .i64 (p : Int)) (.inr rfl)).andSet ⟨w.heap.size + 1, 1, none⟩ (.int .i64 (f : Int)) (.inr rfl)).andSet ⟨w.heap.size + 1, 2, none⟩ (.int .i64 (x : Int)) (.inr rfl)
  have C0 := (K1.block _ (blk_lt bC) hne).trans bC
  generalize ((w1.setCell ⟨w.heap.size + 1, 0, none⟩ (.int .i64 (p : Int))).setCell ⟨w.heap.size + 1, 1, none⟩ (.int .i64 (f : Int))).setCell ⟨w.heap.size + 1, 2, none⟩ (.int .i64 (x : Int)) = w2 at *
  have C1 := set3 C0 0 (.int .i64 ((p : Int) + 1))
  have C2 := set3 C1 1 (.int .i64 ((x : Int) + 1))
  have C3 := set3 C2 2 (.int .i64 (l : Int))
  have K2 := (((Kp.refl (fun k => k = w.heap.size + 1 + 1) w2).andSet ⟨w.heap.size + 1 + 1, 0, none⟩ (.int .i64 ((p : Int) + 1)) (.inr rfl)).andSet ⟨w.heap.size + 1 + 1, 1, none⟩ (.int .i64 ((x : Int) + 1)) (.inr rfl)).andSet ⟨w.heap.size + 1 + 1, 2, none⟩ (.int .i64 (l : Int)) (.inr rfl)
  have B4 := (K2.block _ (blk_lt B3) (fun e => hne e.symm)).trans B3
  generalize ((w2.setCell ⟨w.heap.size + 1 + 1, 0, none⟩ (.int .i64 ((p : Int) + 1))).setCell ⟨w.heap.size + 1 + 1, 1, none⟩ (.int .i64 ((x : Int) + 1))).setCell ⟨w.heap.size + 1 + 1, 2, none⟩ (.int .i64 (l : Int)) = w3 at *
  have HP := hide hp
  have HF : Hid (Kp Nu w w3.drew) := hide (((kA.trans K1 (fun i hi e => by omega)).trans K2 (fun i hi e => by omega)).drew)
  obtain ⟨p0, p1, p2⟩ := cell3 B4
  obtain ⟨q0, q1, q2⟩ := cell3 C3
  clear y0 y1 y2 u0 u1 u2 v0 v1 v2 fB0 fB1 fB2 fC0 fC1 fC2 B1 B2 B3 B4 C0 C1 C2 C3 K1 K2 bB bC kA hp HK hw1 hs1 e1 e1' e2 e2' e3 e4 e4' e5 e6
  go_wp2
  refine bodyPost_ret (v := .tuple #[nod p f x, .agg #[.int .i64 ((p : Int) + 1), .int .i64 ((x : Int) + 1), .int .i64 (l : Int)]]) (by simp [results, Tryz.results94, go_sem, p0, p1, p2, q0, q1, q2]) rfl ⟨?_, HF.out⟩
  rw [HP.out]
  rfl
end Go.Proofs.YtbifmcadllilhaaGreat.Rg
namespace Go.Proofs.YtbifmcadllilhaaGreat.Rg
open Go.RowKit Go.Shelf Go.Sort
set_option linter.unusedVariables false
/-- giveBelow at height d -/
def Gv92 (B pb g n c wd a b : Nat) (host : Int) (d : Nat) : Prop := ∀ (w : World) (t : List Int) (m f l : Nat), Tr w B pb g n c wd t → 0 < m → (m + 1) * 2 ^ d ≤ n → l + 1 = f + 2 ^ d → l ≤ 1000000 → Mxd t d m →
    Calls Tryz.prog 78 #[.pointer (some ⟨pb, 0, none⟩), nod m f l, .int .i64 (a : Int), .int .i64 (b : Int), .int .u8 host] w fun e w' => e = .returned (.tuple #[]) ∧ ∃ t', Tr w' B pb g n c wd t' ∧ Gvn t t' d m f a b host ∧ Kp (fun k => k = g) w w'
theorem Tr.len_lt {w : World} {B pb g n c wd : Nat} {t : List Int} (h : Tr w B pb g n c wd t) {m : Nat} (hm : m < n) : m < t.length := by rw [h.len]; exact hm
theorem halves_n (w : World) (m f l m1 m2 x x1 : Nat) (h1 : m1 = 2 * m) (h2 : m2 = 2 * m + 1) (h3 : x1 = x + 1) (hx : f + l = 2 * x + 1) (hm : m ≤ 1000000) (hf : f ≤ 1000000) (hl : l ≤ 1000000) :
    Calls Tryz.prog 94 #[nod m f l] w fun e w' => e = .returned (.tuple #[nod m1 f x, nod m2 x1 l]) ∧ Kp Nu w w' := by
  subst h1 h2 h3
  exact halves106 w m f l x hx hm hf hl
theorem blk_kp {S : Nat → Prop} {w w' : World} {b : Nat} {o : Obj} (h : w.heap[b]? = some o) (k : Kp S w w') (hs : ¬ S b) : w'.heap[b]? = some o := (k.block b (blk_lt h) hs).trans h
set_option maxRecDepth 100000 in
set_option maxHeartbeats 4000000 in
theorem give92_step (B pb g n c wd : Nat) (hn : n ≤ 1000000) (a b : Nat) (host : Int) (hh : host ≠ 255) (d : Nat) (IH : ∀ d', d = d' + 1 → Gv92 B pb g n c wd a b host d') : Gv92 B pb g n c wd a b host d := by
  intro w t m f l hT hm0 hmn hl hl6 hM
  have mixed : Tryz.prog.follows .mixedOrders = true := by kernel_rfl
  obtain ⟨w1, hw1⟩ : ∃ w1, w.alloc (.cells #[.int .i64 (m : Int), .int .i64 (f : Int), .int .i64 (l : Int)] 141) = w1 := ⟨_, rfl⟩
  have kA : Kp Nu w w1 := by rw [← hw1]; exact Kp.alloc _ _ _
  have bA : w1.heap[w.heap.size]? = some (.cells #[.int .i64 (m : Int), .int .i64 (f : Int), .int .i64 (l : Int)] 141 (0, 0)) := by rw [← hw1]; exact heap_alloc_new w _
  have hgw := hT.lt
  have hp := Nat.two_pow_pos d
  have hmN : m < n := by
    have : (m + 1) * 1 ≤ (m + 1) * 2 ^ d := Nat.mul_le_mul_left _ hp
    omega
  obtain ⟨y0, y1, y2⟩ := cell3 bA
  have HB := hide bA
  have HT := hide (hT.nu kA)
  have HK := hide kA
  have HM := hide hM
  have hlenm := hT.len_lt hmN
  have hm0I : (0 : Int) ≤ (m : Int) := by omega
  have hmNI : (m : Int) < (n : Int) := by omega
  have emN : (m : Int).toNat = m := by omega
  have HF := hide (And.intro hgw (And.intro hlenm (And.intro hmn (And.intro hl hl6))))
  clear hT hM bA kA hgw hlenm
  go_enter Tryz.func78, Tryz.ntmps78
  go_wp2_with fail
  refine (apart104 _ m f l a b).mono ?_; rintro e w2 ⟨⟨bo, rfl, hbo⟩, hk⟩
  by_cases ha : b < f ∨ l < a
  · obtain rfl : bo = true := hbo.2 ha
    clear hbo
    go_wp2
    refine bodyPost_ret (results_none rfl _ _ _) rfl ?_
    exact ⟨rfl, t, HT.out.nu hk, Gvn.apart HM.out (by have := HF.out.2.2.2.1; omega), ((HK.out.andNu hk)).mono (fun _ _ e => e.elim)⟩
  obtain rfl : bo = false := by cases bo with
    | true => exact absurd (hbo.1 rfl) ha
    | false => rfl
  have HA := hide ha
  have HT2 := hide (HT.out.nu hk)
  have HK2 := hide (HK.out.andNu hk)
  have HB2 := hide (box2 HB.out hk)
  obtain ⟨z0, z1, z2⟩ := cell3 HB2.out
  clear hbo ha HT HK HB y0 y1 y2 hk
  go_wp2_with fail
  refine (within105 _ m f l a b).mono ?_; rintro e w3 ⟨⟨bo, rfl, hbo⟩, hk⟩
  have HT3 := hide (HT2.out.nu hk)
  have HK3 := hide (HK2.out.andNu hk)
  have HB3 := hide (box2 HB2.out hk)
  obtain ⟨y0, y1, y2⟩ := cell3 HB3.out
  clear HT2 HK2 HB2 z0 z1 z2 hk
  by_cases hi : a ≤ f ∧ l ≤ b
  · obtain rfl : bo = true := hbo.2 hi
    have HI := hide hi
    clear hbo hi
    have r1 := HT3.out.row
    obtain ⟨x1, x2⟩ := HT3.out.at_ (k := m) hmN
    go_wp2_with fail
    go_region
    go_wp2
    refine bodyPost_ret (results_none rfl _ _ _) rfl ?_
    have hl' := HF.out.2.2.2.1
    have hI := HI.out
    refine ⟨rfl, _, (HT3.out.set (k := m) hmN host).drew, Gvn.within HF.out.2.1 hh hI.1 (by omega), ((HK3.out.mono (T := fun k => k = g) (fun _ _ e => e.elim)).andSet ⟨g, m, none⟩ _ (.inr rfl)).drew⟩
  obtain rfl : bo = false := by cases bo with
    | true => exact absurd (hbo.1 rfl) hi
    | false => rfl
  obtain ⟨d', rfl⟩ : ∃ d', d = d' + 1 := by
    cases d with
    | zero => have := HF.out.2.2.2.1; have := HA.out; simp at this ⊢; omega
    | succ d' => exact ⟨d', rfl⟩
  have I := IH d' rfl
  clear hbo hi IH
  have e2 : 2 ^ (d' + 1) = 2 ^ d' + 2 ^ d' := by rw [Nat.pow_succ]; omega
  have hp' := Nat.two_pow_pos d'
  obtain ⟨_, _, hmn', hl', hl6'⟩ := HF.out
  have hmn2 : (2 * m + 1 + 1) * 2 ^ d' ≤ n := by
    have : (m + 1) * 2 ^ (d' + 1) = (2 * m + 1 + 1) * 2 ^ d' := by rw [e2, ← Nat.two_mul, ← Nat.mul_assoc, show (m + 1) * 2 = 2 * m + 1 + 1 by omega]
    omega
  have hmn1 : (2 * m + 1) * 2 ^ d' ≤ n := Nat.le_trans (Nat.mul_le_mul_right _ (by omega)) hmn2
  have hmn3 : 2 * m + 1 < n := by
    have : (2 * m + 1 + 1) * 1 ≤ (2 * m + 1 + 1) * 2 ^ d' := Nat.mul_le_mul_left _ hp'
    omega
  obtain ⟨x, hx⟩ : ∃ x, x + 1 = f + 2 ^ d' := ⟨f + 2 ^ d' - 1, by omega⟩
  obtain ⟨m1, hm1⟩ : ∃ k, k = 2 * m := ⟨_, rfl⟩
  obtain ⟨m2, hm2⟩ : ∃ k, k = 2 * m + 1 := ⟨_, rfl⟩
  obtain ⟨x1, hx1⟩ : ∃ k, k = x + 1 := ⟨_, rfl⟩
  have HH := fun w => halves_n w m f l m1 m2 x x1 hm1 hm2 hx1 (by omega) (by omega) (by omega) (by omega)
  have I1 : Hid (∀ (w : World) (t : List Int), Tr w B pb g n c wd t → Mxd t d' (2 * m) → Calls Tryz.prog 78 #[.pointer (some ⟨pb, 0, none⟩), nod m1 f x, .int .i64 (a : Int), .int .i64 (b : Int), .int .u8 host] w fun e w' => e = .returned (.tuple #[]) ∧ ∃ t', Tr w' B pb g n c wd t' ∧ Gvn t t' d' (2 * m) f a b host ∧ Kp (fun k => k = g) w w') :=
    hide (fun w t hT hM => by rw [hm1]; exact I w t (2 * m) f x hT (by omega) hmn1 hx (by omega) hM)
  have I2 : Hid (∀ (w : World) (t : List Int), Tr w B pb g n c wd t → Mxd t d' (2 * m + 1) → Calls Tryz.prog 78 #[.pointer (some ⟨pb, 0, none⟩), nod m2 x1 l, .int .i64 (a : Int), .int .i64 (b : Int), .int .u8 host] w fun e w' => e = .returned (.tuple #[]) ∧ ∃ t', Tr w' B pb g n c wd t' ∧ Gvn t t' d' (2 * m + 1) (f + 2 ^ d') a b host ∧ Kp (fun k => k = g) w w') :=
    hide (fun w t hT hM => by rw [hm2, hx1, hx]; exact I w t (2 * m + 1) (f + 2 ^ d') l hT (by omega) hmn2 (by omega) (by omega) hM)
  clear hmn1 hmn2 hl' hl6' hx e2 hmn' hmn hl hm1 hm2 hx1 I
  go_wp2_with fail
  refine (hand93 _ B pb g n c wd t m HT3.out hm0 hmn3 hn).mono ?_; rintro e w4 ⟨rfl, t1, hT4, hH, hk4⟩
  have hgb := HF.out.1
  have HB4 := hide (blk_kp HB3.out hk4 (by omega))
  obtain ⟨z0, z1, z2⟩ := cell3 HB4.out
  have HK4 := hide ((HK3.out.mono (T := fun k => k = g) (fun _ _ e => e.elim)).trans hk4 (fun _ _ e => e))
  clear hk4 y0 y1 y2 HB3 HK3 HT3
  go_wp2_with fail
  refine (HH _).mono ?_; rintro e w5 ⟨rfl, hk5⟩
  obtain ⟨w6, hw6⟩ : ∃ w6, (w5.alloc (.cells #[.int .i64 (m1 : Int), .int .i64 (f : Int), .int .i64 (x : Int)] 141)).alloc (.cells #[.int .i64 (m2 : Int), .int .i64 (x1 : Int), .int .i64 (l : Int)] 141) = w6 := ⟨_, rfl⟩
  have k56 : Kp Nu w5 w6 := by rw [← hw6]; exact (Kp.alloc _ _ _).andAlloc _
  have bL : w6.heap[w5.heap.size]? = some (.cells #[.int .i64 (m1 : Int), .int .i64 (f : Int), .int .i64 (x : Int)] 141 (0, 0)) := by rw [← hw6]; exact box2 (heap_alloc_new w5 _) (Kp.alloc _ _ Nu)
  have bU : w6.heap[w5.heap.size + 1]? = some (.cells #[.int .i64 (m2 : Int), .int .i64 (x1 : Int), .int .i64 (l : Int)] 141 (0, 0)) := by
    rw [← hw6]
    have q := heap_alloc_new (w5.alloc (.cells #[.int .i64 (m1 : Int), .int .i64 (f : Int), .int .i64 (x : Int)] 141)) (.cells #[.int .i64 (m2 : Int), .int .i64 (x1 : Int), .int .i64 (l : Int)] 141)
    simp only [World.size_alloc] at q
    exact q
  have hk6 := hk5.andNu k56
  have HT6 := hide (hT4.nu hk6)
  have HB6 := hide (And.intro (box2 HB4.out hk6) bU)
  have HK6 := hide (HK4.out.andNu hk6)
  have hg5 : g < w5.heap.size := Nat.lt_of_lt_of_le hgb (Nat.le_trans HK4.out.size hk5.size)
  obtain ⟨l0, l1, l2⟩ := cell3 bL
  obtain ⟨u0, u1, u2⟩ := cell3 bU
  have HHD := hide hH
  clear z0 z1 z2 hT4 HB4 HK4 hk5 HH k56 hk6 bL bU hH
  go_wp2_with fail
  refine (I1.out _ _ HT6.out (HHD.out.left HM.out)).mono ?_; rintro e w7 ⟨rfl, t2, hT7, hG7, hk7⟩
  have HT7 := hide hT7
  have HG7 := hide hG7
  have HB7 := hide (And.intro (blk_kp HB6.out.1 hk7 (by omega)) (blk_kp HB6.out.2 hk7 (by omega)))
  have HK7 := hide (HK6.out.trans hk7 (fun _ _ e => e))
  clear l0 l1 l2 u0 u1 u2
  obtain ⟨u0, u1, u2⟩ := cell3 HB7.out.2
  clear hT7 hG7 hk7 HT6 HB6 HK6
  go_wp2_with fail
  refine (I2.out _ _ HT7.out (HG7.out.right hm0 (HHD.out.right HM.out))).mono ?_; rintro e w8 ⟨rfl, t3, hT8, hG8, hk8⟩
  have HT8 := hide hT8
  have HG8 := hide hG8
  have HB8 := hide (blk_kp HB7.out.1 hk8 (by omega))
  have HK8 := hide (HK7.out.trans hk8 (fun _ _ e => e))
  clear u0 u1 u2
  obtain ⟨y0, y1, y2⟩ := cell3 HB8.out
  clear hT8 hG8 hk8 HT7 HB7 HK7
  go_wp2_with fail
  refine (gather88 _ B pb g n c wd t3 m HT8.out hm0 hmn3 hn).mono ?_; rintro e w9 ⟨rfl, t4, hT9, h91, h92, hk9⟩
  have HT9 := hide hT9
  have H9 := hide (And.intro h91 (And.intro h92 hk9))
  clear hT9 h91 h92 hk9
  go_wp2
  go_end0
  exact ⟨rfl, t4, HT9.out, Gvn.node hm0 HM.out HHD.out HG7.out HG8.out H9.out.1 H9.out.2.1, HK8.out.trans H9.out.2.2 (fun _ _ e => e)⟩
end Go.Proofs.YtbifmcadllilhaaGreat.Rg
