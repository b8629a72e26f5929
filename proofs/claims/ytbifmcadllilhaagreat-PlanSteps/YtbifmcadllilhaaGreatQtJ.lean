import Derived.Test.YtbifmcadllilhaaGreatQtF
import Derived.Test.YtbifmcadllilhaaGreatPpE
import Derived.Test.YtbifmcadllilhaaGreatRgL
import Derived.Test.YtbifmcadllilhaaGreatRgE
namespace Go.Proofs.YtbifmcadllilhaaGreat.Rg
open Go.RowKit Go.Shelf Go.Sort
set_option linter.unusedVariables false
/-- the keys are cut into parts: the parts' first keys -/
structure Sts (S : List Int) : Prop where
  ne : 0 < S.length
  zero : gt S 0 = 0
  inc : ∀ i j, i < j → j < S.length → gt S i < gt S j
  top : ∀ i, i < S.length → gt S i < 18446744073709551616
/-- the key behind a part -/
def nx (S : List Int) (j : Nat) : Int := if j + 1 < S.length then gt S (j + 1) else 18446744073709551616
/-- a key lies in a part -/
structure Inp (S : List Int) (j : Nat) (k : Int) : Prop where
  lt : j < S.length
  lo : gt S j ≤ k
  hi : k < nx S j
/-- whose the parts' keys are -/
def Fits (S : List Int) (o : Nat → Int) (L : List Sg) : Prop := ∀ j k, Inp S j k → ow L k = o j
theorem Sts.ge {S : List Int} (h : Sts S) {i : Nat} (hi : i < S.length) : 0 ≤ gt S i := by
  cases i with
  | zero => rw [h.zero]; omega
  | succ i => have := h.inc 0 (i + 1) (by omega) hi; rw [h.zero] at this; omega
theorem Sts.nxle {S : List Int} (h : Sts S) {i j : Nat} (hij : i < j) (hj : j < S.length) : nx S i ≤ gt S j := by
  unfold nx
  rw [if_pos (by omega)]
  by_cases e : i + 1 = j
  · rw [e]; omega
  · have := h.inc (i + 1) j (by omega) hj; omega
theorem Sts.nxgt {S : List Int} (h : Sts S) {i : Nat} (hi : i < S.length) : gt S i < nx S i := by
  unfold nx
  split
  · exact h.inc i (i + 1) (by omega) (by assumption)
  · exact h.top i hi
theorem Sts.nxtop {S : List Int} (h : Sts S) (i : Nat) : nx S i ≤ 18446744073709551616 := by
  unfold nx
  split
  · have := h.top (i + 1) (by assumption); omega
  · omega
theorem Sts.part {S : List Int} (h : Sts S) {k : Int} (h0 : 0 ≤ k) (h1 : k < 18446744073709551616) : ∃ j, Inp S j k := by
  have key : ∀ n, n < S.length → k < nx S n → ∃ j, Inp S j k := by
    intro n
    induction n with
    | zero => intro hn hk; exact ⟨0, hn, by rw [h.zero]; exact h0, hk⟩
    | succ n ih =>
      intro hn hk
      by_cases c : gt S (n + 1) ≤ k
      · exact ⟨n + 1, hn, c, hk⟩
      · exact ih (by omega) (by unfold nx; rw [if_pos hn]; omega)
  refine key (S.length - 1) (by have := h.ne; omega) ?_
  unfold nx
  rw [if_neg (by have := h.ne; omega)]
  exact h1
theorem Sts.one {S : List Int} (h : Sts S) {i j : Nat} {k : Int} (hi : Inp S i k) (hj : Inp S j k) : i = j := by
  rcases Nat.lt_trichotomy i j with c | c | c
  · have := h.nxle c hj.lt; have := hi.hi; have := hj.lo; omega
  · exact c
  · have := h.nxle c hi.lt; have := hj.hi; have := hi.lo; omega
theorem Sts.at_lo {S : List Int} (h : Sts S) {a : Nat} {lo : Int} (ha : Inp S a lo) (hm : lo ∈ S) : gt S a = lo := by
  obtain ⟨i, i1, i2⟩ := gt_mem.1 hm
  have := h.one ha ⟨i1, by omega, by have := h.nxgt i1; omega⟩
  rw [this]; exact i2
theorem Sts.at_hi {S : List Int} (h : Sts S) {b : Nat} {hi : Int} (hb : Inp S b hi) (hm : hi + 1 ∈ S ∨ hi = 18446744073709551615) : nx S b = hi + 1 := by
  have e1 := hb.hi
  have e2 := h.nxtop b
  rcases hm with hm | hm
  · obtain ⟨i, i1, i2⟩ := gt_mem.1 hm
    rcases Nat.lt_or_ge b i with c | c
    · have := h.nxle c i1; omega
    · exfalso
      have e3 := hb.lo
      by_cases e : i = b
      · subst e; omega
      · have := h.inc i b (by omega) hb.lt; omega
  · omega
/-- a run of parts is a range of keys -/
theorem Sts.run {S : List Int} (h : Sts S) {a b : Nat} {lo hi : Int} (ha : gt S a = lo) (hal : a < S.length) (hb : nx S b = hi + 1) (hbl : b < S.length) {j : Nat} {k : Int} (hk : Inp S j k) : (lo ≤ k ∧ k ≤ hi) ↔ (a ≤ j ∧ j ≤ b) := by
  have k1 := hk.lo
  have k2 := hk.hi
  constructor
  · rintro ⟨c1, c2⟩
    constructor
    · rcases Nat.lt_or_ge j a with c | c
      · have := h.nxle c hal; omega
      · exact c
    · rcases Nat.lt_or_ge b j with c | c
      · have := h.nxle c hk.lt; omega
      · exact c
  · rintro ⟨c1, c2⟩
    constructor
    · by_cases e : a = j
      · subst e; omega
      · have := h.inc a j (by omega) hk.lt; omega
    · by_cases e : j = b
      · subst e; omega
      · have := h.nxle (i := j) (j := b) (by omega) hbl; have := h.nxgt hbl; omega
theorem Fits.give {S : List Int} (h : Sts S) {o : Nat → Int} {L : List Sg} (hF : Fits S o L) (hT : Tab L) {a b : Nat} {lo hi x : Int} (h0 : 0 ≤ lo) (h1 : lo ≤ hi) (h2 : hi < 18446744073709551616) (x0 : 0 ≤ x) (x1 : x < 16) (ha : gt S a = lo) (hal : a < S.length) (hb : nx S b = hi + 1) (hbl : b < S.length) :
    Fits S (fun j => if a ≤ j ∧ j ≤ b then x else o j) (asg L lo hi x) := fun j k hk => by
  have k0 : 0 ≤ k := by have := h.ge hk.lt; have := hk.lo; omega
  have k1 : k < 18446744073709551616 := by have := h.nxtop j; have := hk.hi; omega
  rw [(asg_facts hT h0 h1 h2 x0 x1).2.1 k k0 k1, hF j k hk]
  by_cases c : a ≤ j ∧ j ≤ b
  · rw [if_pos ((h.run ha hal hb hbl hk).2 c)]; simp only [c, and_self, if_true]
  · rw [if_neg (fun e => c ((h.run ha hal hb hbl hk).1 e))]; simp only [c, if_false]
theorem Fits.own {S : List Int} (h : Sts S) {o : Nat → Int} {L : List Sg} (hF : Fits S o L) {a b : Nat} {lo hi x : Int} (h0 : 0 ≤ lo) (h2 : hi < 18446744073709551616) (ha : gt S a = lo) (hal : a < S.length) (hb : nx S b = hi + 1) (hbl : b < S.length) :
    Own L lo hi x ↔ ∀ j, a ≤ j → j ≤ b → o j = x := by
  constructor
  · intro hO j j1 j2
    have hjl : j < S.length := by omega
    have hk : Inp S j (gt S j) := ⟨hjl, by omega, h.nxgt hjl⟩
    have := (h.run ha hal hb hbl hk).2 ⟨j1, j2⟩
    rw [← hF j _ hk]
    exact hO _ this.1 this.2
  · intro hA k k1 k2
    obtain ⟨j, hj⟩ := h.part (k := k) (by omega) (by omega)
    have := (h.run ha hal hb hbl hj).1 ⟨k1, k2⟩
    rw [hF j k hj]
    exact hA j this.1 this.2
theorem cov_next : ∀ {L : List Sg} {a b : Int} {s : Sg}, Cov a L b → s ∈ L → s.hi + 1 < b → ∃ s' ∈ L, s'.lo = s.hi + 1
  | [], a, b, s, h, hs, hb => by cases hs
  | x :: r, a, b, s, h, hs, hb => by
    rcases List.mem_cons.1 hs with e | e
    · subst e
      cases r with
      | nil => have : s.hi + 1 = b := h.2.2; omega
      | cons y r => exact ⟨y, by simp, h.2.2.1⟩
    · obtain ⟨s', h1, h2⟩ := cov_next h.2.2 e hb
      exact ⟨s', List.mem_cons_of_mem _ h1, h2⟩
theorem Fits.start {S : List Int} (h : Sts S) {L : List Sg} (hT : Tab L) (hm : ∀ s ∈ L, s.lo ∈ S) : Fits S (fun j => ow L (gt S j)) L := fun j k hk => by
  have e0 := h.ge hk.lt
  have e1 := h.top j hk.lt
  obtain ⟨s, q1, q2, q3, q4, q5⟩ := plc_facts hT.cov e0 e1
  have hs := List.mem_of_getElem? q1
  show ow L k = ow L (gt S j)
  rw [← q4]
  refine ow_mem hT.cov hs (by have := hk.lo; omega) ?_
  rcases Int.lt_or_le s.hi k with c | c
  · exfalso
    have k1 : k < 18446744073709551616 := by have := h.nxtop j; have := hk.hi; omega
    obtain ⟨s', h1, h2⟩ := cov_next hT.cov hs (by omega)
    obtain ⟨i, i1, i2⟩ := gt_mem.1 (hm s' h1)
    have : j < i := by
      rcases Nat.lt_or_ge j i with c | c
      · exact c
      · by_cases e : i = j
        · subst e; omega
        · have := h.inc i j (by omega) hk.lt; omega
    have := h.nxle this i1
    have := hk.hi
    omega
  · exact c
/-- a part as a segment -/
def prt (S : List Int) (o : Nat → Int) (j : Nat) : Sg := ⟨gt S j, nx S j - 1, o j⟩
/-- the segments of the first parts -/
def rk (S : List Int) (o : Nat → Int) (i : Nat) : List Sg := lays [] ((List.range i).map (prt S o))
theorem rk_succ (S : List Int) (o : Nat → Int) (i : Nat) : rk S o (i + 1) = lay (rk S o i) (prt S o i) := by
  unfold rk
  rw [List.range_succ, List.map_append, List.map_cons, List.map_nil, lays_snoc]
theorem rk_cov {S : List Int} (h : Sts S) (o : Nat → Int) : ∀ i, 0 < i → i ≤ S.length → Cov 0 (rk S o i) (nx S (i - 1)) ∧ Alt (rk S o i) ∧ ∀ j k, j < i → Inp S j k → ow (rk S o i) k = o j
  | 0, h0, _ => by omega
  | 1, _, hl => by
    have e : rk S o 1 = [prt S o 0] := rfl
    have := h.nxgt (i := 0) h.ne
    refine ⟨?_, ?_, ?_⟩
    · rw [e]; refine ⟨h.zero, ?_, ?_⟩
      · show (0 : Int) ≤ nx S 0 - 1
        have := h.zero; omega
      · show nx S 0 - 1 + 1 = nx S (1 - 1)
        show nx S 0 - 1 + 1 = nx S 0
        omega
    · rw [e]; trivial
    · intro j k hj hk
      obtain rfl : j = 0 := by omega
      rw [e]
      show (if k ≤ nx S 0 - 1 then o 0 else _) = o 0
      have := hk.hi
      rw [if_pos (by omega)]
  | i + 2, _, hl => by
    obtain ⟨c1, c2, c3⟩ := rk_cov h o (i + 1) (by omega) (by omega)
    rw [rk_succ]
    have e1 : nx S (i + 1 - 1) = gt S (i + 1) := by show nx S i = _; unfold nx; rw [if_pos (by omega)]
    have e2 := h.nxgt (i := i + 1) (by omega)
    obtain ⟨d1, d2⟩ := lay_cov (s := prt S o (i + 1)) c1 e1.symm (by show _ ≤ nx S (i + 1) - 1; omega) (b := nx S (i + 1)) (by show nx S (i + 1) - 1 + 1 = _; omega)
    refine ⟨d1, lay_alt _ _ c2, fun j k hj hk => ?_⟩
    have k0 : 0 ≤ k := by have := h.ge hk.lt; have := hk.lo; omega
    by_cases c : j < i + 1
    · have := h.nxle (i := j) (j := i + 1) c (by omega)
      have := hk.hi
      rw [d2 k k0 (by omega), if_pos (by omega)]
      exact c3 j k c hk
    · obtain rfl : j = i + 1 := by omega
      have := hk.lo
      have := hk.hi
      rw [d2 k k0 (by omega), if_neg (by omega)]
      rfl
theorem rk_all {S : List Int} (h : Sts S) {o : Nat → Int} {L : List Sg} (hT : Tab L) (hF : Fits S o L) : rk S o S.length = L := by
  obtain ⟨c1, c2, c3⟩ := rk_cov h o S.length h.ne (Nat.le_refl _)
  have e : nx S (S.length - 1) = 18446744073709551616 := by unfold nx; rw [if_neg (by have := h.ne; omega)]
  rw [e] at c1
  refine cov_unique c1 hT.cov c2 hT.alt (fun k k0 k1 => ?_)
  obtain ⟨j, hj⟩ := h.part k0 k1
  rw [c3 j k hj.lt hj, hF j k hj]
/-- the list while it is made: its last segment reaches to the end -/
def Rp (S : List Int) (o : Nat → Int) (i : Nat) (R : List Sg) : Prop := (i = 0 ∧ R = []) ∨ (0 < i ∧ ∃ A lo h, R = A ++ [⟨lo, 18446744073709551615, h⟩] ∧ rk S o i = A ++ [⟨lo, nx S (i - 1) - 1, h⟩])
theorem Rp.same {S : List Int} {o : Nat → Int} {i : Nat} {A : List Sg} {lo h : Int} (hi : 0 < i) (hR : rk S o i = A ++ [⟨lo, nx S (i - 1) - 1, h⟩]) (e : h = o i) : Rp S o (i + 1) (A ++ [⟨lo, 18446744073709551615, h⟩]) := by
  refine .inr ⟨by omega, A, lo, h, rfl, ?_⟩
  rw [rk_succ, hR, lay_snoc, if_pos (by exact e)]
  rfl
theorem Rp.more {S : List Int} {o : Nat → Int} {i : Nat} {A : List Sg} {lo h : Int} (hi : 0 < i) (hl : i < S.length) (hR : rk S o i = A ++ [⟨lo, nx S (i - 1) - 1, h⟩]) (e : h ≠ o i) : Rp S o (i + 1) (A ++ [⟨lo, gt S i - 1, h⟩] ++ [⟨gt S i, 18446744073709551615, o i⟩]) := by
  have e1 : nx S (i - 1) = gt S i := by unfold nx; rw [if_pos (by omega), show i - 1 + 1 = i by omega]
  refine .inr ⟨by omega, A ++ [⟨lo, gt S i - 1, h⟩], gt S i, o i, rfl, ?_⟩
  rw [rk_succ, hR, lay_snoc, if_neg (by exact e), e1]
  rfl
theorem Rp.first {S : List Int} {o : Nat → Int} : Rp S o 1 [⟨gt S 0, 18446744073709551615, o 0⟩] := .inr ⟨by omega, [], gt S 0, o 0, rfl, rfl⟩
theorem Rp.last {S : List Int} (hS : Sts S) {o : Nat → Int} {R : List Sg} (h : Rp S o S.length R) : R = rk S o S.length := by
  rcases h with ⟨e, _⟩ | ⟨_, A, lo, x, rfl, e⟩
  · have := hS.ne; omega
  · have e2 : nx S (S.length - 1) = 18446744073709551616 := by unfold nx; rw [if_neg (by have := hS.ne; omega)]
    rw [e, e2]
    rfl
end Go.Proofs.YtbifmcadllilhaaGreat.Rg
namespace Go.Proofs.YtbifmcadllilhaaGreat.Rg
open Go.RowKit Go.Shelf Go.Sort
set_option linter.unusedVariables false
/-- the field in memory -/
structure Fd (w : World) (B fb sg ns cs pb : Nat) (S : List Int) : Prop where
  blk : w.heap[fb]? = some (.cells #[.slice (some ⟨sg, 0, none⟩) ns cs, .pointer (some ⟨pb, 0, none⟩)] 117 (0, 0))
  row : Dr w B sg ns cs S
theorem Fd.nu {w w' : World} {B fb sg ns cs pb : Nat} {S : List Int} (h : Fd w B fb sg ns cs pb S) (k : Kp Nu w w') : Fd w' B fb sg ns cs pb S := ⟨box2 h.blk k, h.row.nu k⟩
theorem Fd.c0 {w : World} {B fb sg ns cs pb : Nat} {S : List Int} (h : Fd w B fb sg ns cs pb S) : w.cell? ⟨fb, 0, none⟩ = some (.slice (some ⟨sg, 0, none⟩) ns cs) := by simp [World.cell?, h.blk]
theorem Fd.c1 {w : World} {B fb sg ns cs pb : Nat} {S : List Int} (h : Fd w B fb sg ns cs pb S) : w.cell? ⟨fb, 1, none⟩ = some (.pointer (some ⟨pb, 0, none⟩)) := by simp [World.cell?, h.blk]
set_option maxRecDepth 100000 in
set_option maxHeartbeats 1000000 in
theorem part1_89 {w : World} {B fb sg ns cs pb : Nat} {S : List Int} (h : Fd w B fb sg ns cs pb S) (kb tb : Nat) (key : Int) (hk : w.heap[kb]? = some (.cells #[.int .u64 key] 24 (0, 0))) (ht : w.heap[tb]? = some (.cells #[.pointer (some ⟨fb, 0, none⟩)] 85 (0, 0))) (i : Nat) (hi : i < ns) :
    Calls Tryz.prog 75 #[.int .i64 (i : Int), .pointer (some ⟨tb, 0, none⟩), .pointer (some ⟨kb, 0, none⟩)] w fun e w' => e = .returned (.bool (decide (gt S i > key))) ∧ w' = w.drew := by
  have mixed : Tryz.prog.follows .mixedOrders = true := by kernel_rfl
  obtain ⟨x0, _⟩ := h.row.at_ hi
  have c0 := h.c0
  have k1 := cell1 hk
  have k2 := cell1 ht
  have hiI : (i : Int) < (ns : Int) := by omega
  have hi0 : (0 : Int) ≤ (i : Int) := by omega
  have eti : (i : Int).toNat = i := by omega
  clear h
  go_enter Tryz.func75, Tryz.ntmps75
  go_wp2_with fail
  go_region
  go_wp2
  go_ret
  exact ⟨rfl, rfl⟩
theorem count_part {S : List Int} (h : Sts S) {key : Int} : ∀ n, n ≤ S.length → ∀ j, j ≤ n → (∀ i, i < n → (gt S i ≤ key ↔ i < j)) → (List.range n).countP (fun i => !(decide (gt S i > key))) = j
  | 0, _, j, hj, _ => by simp; omega
  | n + 1, hn, j, hj, hh => by
    rw [List.range_succ, List.countP_append]
    by_cases c : j ≤ n
    · rw [count_part h n (by omega) j c (fun i hi => hh i (by omega))]
      have := hh n (by omega)
      have d : ¬ gt S n ≤ key := fun hc => by have := this.1 hc; omega
      simp
      omega
    · obtain rfl : j = n + 1 := by omega
      rw [count_part h n (by omega) n (Nat.le_refl _) (fun i hi => by rw [hh i (by omega)]; omega)]
      have := (hh n (by omega)).2 (by omega)
      simp
      exact this
set_option maxRecDepth 100000 in
set_option maxHeartbeats 1000000 in
theorem part62 {w : World} {B fb sg ns cs pb : Nat} {S : List Int} (h : Fd w B fb sg ns cs pb S) (hS : Sts S) (hn : ns ≤ 1000000) (key : Int) (j : Nat) (hj : Inp S j key) :
    Calls Tryz.prog 58 #[.pointer (some ⟨fb, 0, none⟩), .int .u64 key] w fun e w' => e = .returned (.int .i64 (j : Int)) ∧ Kp Nu w w' := by
  have mixed : Tryz.prog.follows .mixedOrders = true := by kernel_rfl
  have K2 : Kp Nu w ((w.alloc (.cells #[.pointer (some ⟨fb, 0, none⟩)] 85)).alloc (.cells #[.int .u64 key] 24)) := (Kp.alloc w _ Nu).andAlloc _
  have T2 := h.nu K2
  have hl := h.row.len
  have x0 : ((w.alloc (.cells #[.pointer (some ⟨fb, 0, none⟩)] 85)).alloc (.cells #[.int .u64 key] 24)).heap[w.heap.size]? = some (.cells #[.pointer (some ⟨fb, 0, none⟩)] 85 (0, 0)) := (Below.heap_alloc _ _ _ (by simp)).trans (heap_alloc_new w _)
  have x1 : ((w.alloc (.cells #[.pointer (some ⟨fb, 0, none⟩)] 85)).alloc (.cells #[.int .u64 key] 24)).heap[w.heap.size + 1]? = some (.cells #[.int .u64 key] 24 (0, 0)) := by
    have := heap_alloc_new (w.alloc (.cells #[.pointer (some ⟨fb, 0, none⟩)] 85)) (.cells #[.int .u64 key] 24)
    rwa [World.size_alloc] at this
  generalize hW : (w.alloc (.cells #[.pointer (some ⟨fb, 0, none⟩)] 85)).alloc (.cells #[.int .u64 key] 24) = W at K2 T2 x0 x1
  have mono : ∀ i, i < ns → (gt S i ≤ key ↔ i < j + 1) := fun i hi => by
    constructor
    · intro c
      rcases Nat.lt_or_ge i (j + 1) with d | d
      · exact d
      · have := hS.nxle (i := j) (j := i) (by omega) (by omega); have := hj.hi; omega
    · intro c
      have := hj.lo
      by_cases e : i = j
      · subst e; exact this
      · have := hS.inc i j (by omega) hj.lt; omega
  have SE := Any.sort_Search Tryz.search 75 #[.pointer (some ⟨w.heap.size, 0, none⟩), .pointer (some ⟨w.heap.size + 1, 0, none⟩)] ns (fun i => decide (gt S i > key)) W (enters_of Tryz.func75 (by kernel_rfl) rfl) (by omega)
    (fun m os i hi => by
      have kk := kp_grow W m os
      refine (part1_89 (T2.nu kk) (w.heap.size + 1) w.heap.size key ((kk.block _ (blk_lt x1) (fun h => h)).trans x1) ((kk.block _ (blk_lt x0) (fun h => h)).trans x0) i hi).mono ?_
      rintro e w' ⟨rfl, rfl⟩
      exact ⟨rfl, 1, #[], by rw [grow_empty]; rfl⟩)
    (fun a c hac hc ha => by
      have m1 := mono a (by omega)
      have m2 := mono c (by omega)
      simp only [decide_eq_true_eq] at ha ⊢
      omega)
  rw [count_part hS ns (by omega) (j + 1) (by have := hj.lt; omega) mono] at SE
  change Calls Tryz.prog 45 _ _ _ at SE
  have c0 := T2.c0
  have HK := hide K2
  have ej : IntKind.i64.wrap (((j + 1 : Nat) : Int) - 1) = (j : Int) := by rw [IntKind.wrap_i64]; have := hj.lt; omega
  subst hW
  have hjl := hj.lt
  have j0 : (0 : Int) ≤ (j : Int) := by omega
  have j1 : (j : Int) ≤ 1000000 := by omega
  clear T2 h x0 x1 K2 mono hj hS hl hjl
  go_enter Tryz.func58, Tryz.ntmps58
  go_wp2_with (go_at_call 45; refine SE.mono ?_; rintro e w' ⟨rfl, q, os, rfl⟩)
  go_ret
  exact ⟨by first | rfl | (congr 2; omega), HK.out.andNu (kp_grow _ _ _)⟩
end Go.Proofs.YtbifmcadllilhaaGreat.Rg
namespace Go.Proofs.YtbifmcadllilhaaGreat.Rg
open Go.RowKit Go.Shelf Go.Sort
set_option linter.unusedVariables false
/-- node m has height d in a tree of height D -/
def Nd (D d m : Nat) : Prop := ∃ e, e + d = D ∧ 2 ^ e ≤ m ∧ m < 2 ^ (e + 1)
theorem Nd.lo {D d m : Nat} (h : Nd D d m) : 2 ^ D ≤ m * 2 ^ d := by
  obtain ⟨e, rfl, h1, _⟩ := h
  rw [Nat.pow_add]
  exact Nat.mul_le_mul_right _ h1
theorem Nd.hi {D d m : Nat} (h : Nd D d m) : (m + 1) * 2 ^ d ≤ 2 * 2 ^ D := by
  obtain ⟨e, rfl, _, h2⟩ := h
  have : (m + 1) * 2 ^ d ≤ 2 ^ (e + 1) * 2 ^ d := Nat.mul_le_mul_right _ h2
  rw [Nat.pow_succ, Nat.mul_comm (2 ^ e) 2, Nat.mul_assoc, ← Nat.pow_add] at this
  exact this
theorem Nd.left {D d m : Nat} (h : Nd D (d + 1) m) : Nd D d (2 * m) := by
  obtain ⟨e, h0, h1, h2⟩ := h
  have e2 : 2 ^ (e + 1) = 2 * 2 ^ e := by rw [Nat.pow_succ]; omega
  have e3 : 2 ^ (e + 1 + 1) = 2 * 2 ^ (e + 1) := by rw [Nat.pow_succ 2 (e + 1)]; omega
  exact ⟨e + 1, by omega, by omega, by omega⟩
theorem Nd.right {D d m : Nat} (h : Nd D (d + 1) m) : Nd D d (2 * m + 1) := by
  obtain ⟨e, h0, h1, h2⟩ := h
  have e2 : 2 ^ (e + 1) = 2 * 2 ^ e := by rw [Nat.pow_succ]; omega
  have e3 : 2 ^ (e + 1 + 1) = 2 * 2 ^ (e + 1) := by rw [Nat.pow_succ 2 (e + 1)]; omega
  exact ⟨e + 1, by omega, by omega, by omega⟩
theorem Nd.up {D d m i : Nat} (h : Nd D d m) (hi : m / 2 = i) (h0 : 0 < i) : Nd D (d + 1) i := by
  obtain ⟨e, h0, h1, h2⟩ := h
  cases e with
  | zero => simp at h1 h2; omega
  | succ e =>
    have e2 : 2 ^ (e + 1) = 2 * 2 ^ e := by rw [Nat.pow_succ]; omega
    have e3 : 2 ^ (e + 1 + 1) = 2 * 2 ^ (e + 1) := by rw [Nat.pow_succ 2 (e + 1)]; omega
    exact ⟨e, by omega, by omega, by omega⟩
theorem pow_lt_of {a b : Nat} (h : 2 ^ a < 2 ^ b) : a < b := by
  rcases Nat.lt_or_ge a b with c | c
  · exact c
  · have := Nat.pow_le_pow_right (n := 2) (by omega) c; omega
theorem Nd.leaf {D d m : Nat} (h : Nd D d m) (hm : 2 ^ D ≤ m) : d = 0 := by
  obtain ⟨e, h0, h1, h2⟩ := h
  have := pow_lt_of (a := D) (b := e + 1) (by omega)
  omega
theorem Nd.inner {D d m : Nat} (h : Nd D d m) (hm : m < 2 ^ D) : ∃ d', d = d' + 1 := by
  obtain ⟨e, h0, h1, h2⟩ := h
  have := pow_lt_of (a := e) (b := D) (by omega)
  exact ⟨d - 1, by omega⟩
theorem nd_leaf {D m : Nat} (h1 : 2 ^ D ≤ m) (h2 : m < 2 * 2 ^ D) : Nd D 0 m := ⟨D, rfl, h1, by rw [Nat.pow_succ]; omega⟩
theorem nd_root (D : Nat) : Nd D D 1 := ⟨0, by omega, by simp, by simp⟩
/-- the nodes above i say what the leaves below them say -/
def Gth (D : Nat) (t : List Int) (i : Nat) : Prop := ∀ d m, i < m → Nd D d m → Mxd t d m ∧ ∀ q, q < 2 ^ d → who t d m q = gt t (m * 2 ^ d + q)
theorem Gth.start {D : Nat} {t : List Int} (h : ∀ k, 2 ^ D ≤ k → gt t k ≠ 255) : Gth D t (2 ^ D - 1) := fun d m hm hn => by
  have hp := Nat.two_pow_pos D
  obtain rfl := hn.leaf (by omega)
  refine ⟨h m (by omega), fun q hq => ?_⟩
  simp at hq
  subst hq
  simp [who]
theorem Gth.step {D : Nat} {t t' : List Int} {i : Nat} (h : Gth D t i) (h0 : 0 < i) (hi : i < 2 ^ D) (hs : ∀ k, k ≠ i → gt t' k = gt t k) (hv : gt t' i = gv t i) : Gth D t' (i - 1) := fun d m hm hn => by
  have leaf : ∀ q, gt t' (m * 2 ^ d + q) = gt t (m * 2 ^ d + q) := fun q => hs _ (by have := hn.lo; omega)
  by_cases c : m = i
  · subst c
    obtain ⟨e, rfl⟩ := hn.inner hi
    have e2 : 2 ^ (e + 1) = 2 ^ e + 2 ^ e := by rw [Nat.pow_succ]; omega
    obtain ⟨l1, l2⟩ := h e (2 * m) (by omega) hn.left
    obtain ⟨r1, r2⟩ := h e (2 * m + 1) (by omega) hn.right
    refine ⟨mxd_gather h0 hs hv l1 r1, fun q hq => ?_⟩
    rw [leaf, who_gather h0 hs hv]
    have e3 : m * 2 ^ (e + 1) = 2 * m * 2 ^ e := by rw [e2, ← Nat.two_mul, ← Nat.mul_assoc, Nat.mul_comm m 2]
    by_cases c : q < 2 ^ e
    · rw [if_pos c, l2 q c, e3]
    · rw [if_neg c, r2 _ (by omega), e3, Nat.add_mul, Nat.one_mul]
      congr 1
      omega
  · obtain ⟨q1, q2⟩ := h d m (by omega) hn
    have same : ∀ k, Below_ d m k → gt t' k = gt t k := fun k hk => hs k (by have := below_gt hk (n := i) (by omega); omega)
    exact ⟨mxd_same same q1, fun q hq => by rw [leaf, who_same same, q2 q hq]⟩
/-- the nodes from i on, whose parents have handed down, say whose the parts are -/
def Lst (D : Nat) (t : List Int) (o : Nat → Int) (i : Nat) : Prop := ∀ d m, i ≤ m → m / 2 < i → Nd D d m → ∀ q, q < 2 ^ d → who t d m q = o (m * 2 ^ d - 2 ^ D + q)
theorem Lst.start {D : Nat} {t : List Int} {o : Nat → Int} (h : ∀ q, q < 2 ^ D → who t D 1 q = o q) : Lst D t o 1 := fun d m h1 h2 hn q hq => by
  obtain rfl : m = 1 := by omega
  obtain ⟨e, e0, e1, e2⟩ := hn
  have : e = 0 := by
    cases e with
    | zero => rfl
    | succ e => have := Nat.two_pow_pos e; rw [Nat.pow_succ] at e1; omega
  subst this
  obtain rfl : d = D := by omega
  rw [h q hq, Nat.one_mul, Nat.sub_self, Nat.zero_add]
theorem Lst.step {D : Nat} {t t' : List Int} {o : Nat → Int} {i : Nat} (h : Lst D t o i) (h0 : 0 < i) (hi : i < 2 ^ D) (hd : Hd t t' i) : Lst D t' o (i + 1) := fun d m h1 h2 hn q hq => by
  by_cases c : m / 2 = i
  · have hu := hn.up c h0
    have hw := h (d + 1) i (by omega) (by omega) hu
    have e2 : 2 ^ (d + 1) = 2 ^ d + 2 ^ d := by rw [Nat.pow_succ]; omega
    have e3 : i * 2 ^ (d + 1) = 2 * i * 2 ^ d := by rw [e2, ← Nat.two_mul, ← Nat.mul_assoc, Nat.mul_comm i 2]
    have lo := hu.lo
    by_cases c2 : m = 2 * i
    · subst c2
      have := hw q (by omega)
      rw [who_hand h0 hd.far hd.mix hd.one, if_pos hq] at this
      rw [this, e3]
    · obtain rfl : m = 2 * i + 1 := by omega
      have := hw (q + 2 ^ d) (by omega)
      rw [who_hand h0 hd.far hd.mix hd.one, if_neg (by omega), Nat.add_sub_cancel] at this
      rw [this, e3]
      rw [e3] at lo
      congr 1
      rw [Nat.add_mul, Nat.one_mul]
      omega
  · have same : ∀ k, Below_ d m k → gt t' k = gt t k := fun k hk => by
      obtain ⟨e, e1, e2, e3⟩ := hk
      refine hd.far k (fun x => ?_) (fun x => ?_)
      all_goals
        cases e with
        | zero => simp at e2 e3; omega
        | succ e =>
          have p := Nat.two_pow_pos e
          have : m * 2 ≤ m * 2 ^ (e + 1) := Nat.mul_le_mul_left _ (by rw [Nat.pow_succ]; omega)
          omega
    rw [who_same same]
    exact h d m (by omega) (by omega) hn q hq
theorem Lst.done {D : Nat} {t : List Int} {o : Nat → Int} (h : Lst D t o (2 ^ D)) {q : Nat} (hq : q < 2 ^ D) : gt t (2 ^ D + q) = o q := by
  have := h 0 (2 ^ D + q) (by omega) (by omega) (nd_leaf (by omega) (by omega)) 0 (by simp)
  simp only [who, Nat.pow_zero, Nat.mul_one, Nat.add_zero] at this
  rw [this]
  congr 1
  omega
end Go.Proofs.YtbifmcadllilhaaGreat.Rg
