import Derived.Test.YtbifmcadllilhaaQtE
import Derived.Test.YtbifmcadllilhaaPpE
import Derived.Test.YtbifmcadllilhaaRgM
import Derived.Test.YtbifmcadllilhaaQtI
import Derived.Test.YtbifmcadllilhaaRgE
import Derived.Test.YtbifmcadllilhaaQtL
import Derived.Deep.RegionHeld3
namespace Go.Proofs.Ytbifmcadllilhaa.Rg
open Go.RowKit Go.Shelf Go.Sort
set_option linter.unusedVariables false
/-- the keys are cut into parts: the parts' first keys -/
structure Sts (S : List Int) : Prop where
  ne : 0 < S.length
  zero : gt S 0 = 0
  inc : ∀ i j, i < j → j < S.length → gt S i < gt S j
  top : ∀ i, i < S.length → gt S i < 18446744073709551616
/-- the key behind a part -/
def nx (S : List Int) (j : Nat) : Int := if j + 1 < S.length then gt S (j + 1) else 18446744073709551616
/-- a key lies in a part -/
structure Inp (S : List Int) (j : Nat) (k : Int) : Prop where
  lt : j < S.length
  lo : gt S j ≤ k
  hi : k < nx S j
/-- whose the parts' keys are -/
def Fits (S : List Int) (o : Nat → Int) (L : List Sg) : Prop := ∀ j k, Inp S j k → ow L k = o j
theorem Sts.ge {S : List Int} (h : Sts S) {i : Nat} (hi : i < S.length) : 0 ≤ gt S i := by
  cases i with
  | zero => rw [h.zero]; omega
  | succ i => have := h.inc 0 (i + 1) (by omega) hi; rw [h.zero] at this; omega
theorem Sts.nxle {S : List Int} (h : Sts S) {i j : Nat} (hij : i < j) (hj : j < S.length) : nx S i ≤ gt S j := by
  unfold nx
  rw [if_pos (by omega)]
  by_cases e : i + 1 = j
  · rw [e]; omega
  · have := h.inc (i + 1) j (by omega) hj; omega
theorem Sts.nxgt {S : List Int} (h : Sts S) {i : Nat} (hi : i < S.length) : gt S i < nx S i := by
  unfold nx
  split
  · exact h.inc i (i + 1) (by omega) (by assumption)
  · exact h.top i hi
theorem Sts.nxtop {S : List Int} (h : Sts S) (i : Nat) : nx S i ≤ 18446744073709551616 := by
  unfold nx
  split
  · have := h.top (i + 1) (by assumption); omega
  · omega
theorem Sts.part {S : List Int} (h : Sts S) {k : Int} (h0 : 0 ≤ k) (h1 : k < 18446744073709551616) : ∃ j, Inp S j k := by
  have key : ∀ n, n < S.length → k < nx S n → ∃ j, Inp S j k := by
    intro n
    induction n with
    | zero => intro hn hk; exact ⟨0, hn, by rw [h.zero]; exact h0, hk⟩
    | succ n ih =>
      intro hn hk
      by_cases c : gt S (n + 1) ≤ k
      · exact ⟨n + 1, hn, c, hk⟩
      · exact ih (by omega) (by unfold nx; rw [if_pos hn]; omega)
  refine key (S.length - 1) (by have := h.ne; omega) ?_
  unfold nx
  rw [if_neg (by have := h.ne; omega)]
  exact h1
theorem Sts.one {S : List Int} (h : Sts S) {i j : Nat} {k : Int} (hi : Inp S i k) (hj : Inp S j k) : i = j := by
  rcases Nat.lt_trichotomy i j with c | c | c
  · have := h.nxle c hj.lt; have := hi.hi; have := hj.lo; omega
  · exact c
  · have := h.nxle c hi.lt; have := hj.hi; have := hi.lo; omega
theorem Sts.at_lo {S : List Int} (h : Sts S) {a : Nat} {lo : Int} (ha : Inp S a lo) (hm : lo ∈ S) : gt S a = lo := by
  obtain ⟨i, i1, i2⟩ := gt_mem.1 hm
  have := h.one ha ⟨i1, by omega, by have := h.nxgt i1; omega⟩
  rw [this]; exact i2
theorem Sts.at_hi {S : List Int} (h : Sts S) {b : Nat} {hi : Int} (hb : Inp S b hi) (hm : hi + 1 ∈ S ∨ hi = 18446744073709551615) : nx S b = hi + 1 := by
  have e1 := hb.hi
  have e2 := h.nxtop b
  rcases hm with hm | hm
  · obtain ⟨i, i1, i2⟩ := gt_mem.1 hm
    rcases Nat.lt_or_ge b i with c | c
    · have := h.nxle c i1; omega
    · exfalso
      have e3 := hb.lo
      by_cases e : i = b
      · subst e; omega
      · have := h.inc i b (by omega) hb.lt; omega
  · omega
/-- a run of parts is a range of keys -/
theorem Sts.run {S : List Int} (h : Sts S) {a b : Nat} {lo hi : Int} (ha : gt S a = lo) (hal : a < S.length) (hb : nx S b = hi + 1) (hbl : b < S.length) {j : Nat} {k : Int} (hk : Inp S j k) : (lo ≤ k ∧ k ≤ hi) ↔ (a ≤ j ∧ j ≤ b) := by
  have k1 := hk.lo
  have k2 := hk.hi
  constructor
  · rintro ⟨c1, c2⟩
    constructor
    · rcases Nat.lt_or_ge j a with c | c
      · have := h.nxle c hal; omega
      · exact c
    · rcases Nat.lt_or_ge b j with c | c
      · have := h.nxle c hk.lt; omega
      · exact c
  · rintro ⟨c1, c2⟩
    constructor
    · by_cases e : a = j
      · subst e; omega
      · have := h.inc a j (by omega) hk.lt; omega
    · by_cases e : j = b
      · subst e; omega
      · have := h.nxle (i := j) (j := b) (by omega) hbl; have := h.nxgt hbl; omega
theorem Fits.give {S : List Int} (h : Sts S) {o : Nat → Int} {L : List Sg} (hF : Fits S o L) (hT : Tab L) {a b : Nat} {lo hi x : Int} (h0 : 0 ≤ lo) (h1 : lo ≤ hi) (h2 : hi < 18446744073709551616) (x0 : 0 ≤ x) (x1 : x < 16) (ha : gt S a = lo) (hal : a < S.length) (hb : nx S b = hi + 1) (hbl : b < S.length) :
    Fits S (fun j => if a ≤ j ∧ j ≤ b then x else o j) (asg L lo hi x) := fun j k hk => by
  have k0 : 0 ≤ k := by have := h.ge hk.lt; have := hk.lo; omega
  have k1 : k < 18446744073709551616 := by have := h.nxtop j; have := hk.hi; omega
  rw [(asg_facts hT h0 h1 h2 x0 x1).2.1 k k0 k1, hF j k hk]
  by_cases c : a ≤ j ∧ j ≤ b
  · rw [if_pos ((h.run ha hal hb hbl hk).2 c)]; simp only [c, and_self, if_true]
  · rw [if_neg (fun e => c ((h.run ha hal hb hbl hk).1 e))]; simp only [c, if_false]
theorem Fits.own {S : List Int} (h : Sts S) {o : Nat → Int} {L : List Sg} (hF : Fits S o L) {a b : Nat} {lo hi x : Int} (h0 : 0 ≤ lo) (h2 : hi < 18446744073709551616) (ha : gt S a = lo) (hal : a < S.length) (hb : nx S b = hi + 1) (hbl : b < S.length) :
    Own L lo hi x ↔ ∀ j, a ≤ j → j ≤ b → o j = x := by
  constructor
  · intro hO j j1 j2
    have hjl : j < S.length := by omega
    have hk : Inp S j (gt S j) := ⟨hjl, by omega, h.nxgt hjl⟩
    have := (h.run ha hal hb hbl hk).2 ⟨j1, j2⟩
    rw [← hF j _ hk]
    exact hO _ this.1 this.2
  · intro hA k k1 k2
    obtain ⟨j, hj⟩ := h.part (k := k) (by omega) (by omega)
    have := (h.run ha hal hb hbl hj).1 ⟨k1, k2⟩
    rw [hF j k hj]
    exact hA j this.1 this.2
theorem cov_next : ∀ {L : List Sg} {a b : Int} {s : Sg}, Cov a L b → s ∈ L → s.hi + 1 < b → ∃ s' ∈ L, s'.lo = s.hi + 1
  | [], a, b, s, h, hs, hb => by cases hs
  | x :: r, a, b, s, h, hs, hb => by
    rcases List.mem_cons.1 hs with e | e
    · subst e
      cases r with
      | nil => have : s.hi + 1 = b := h.2.2; omega
      | cons y r => exact ⟨y, by simp, h.2.2.1⟩
    · obtain ⟨s', h1, h2⟩ := cov_next h.2.2 e hb
      exact ⟨s', List.mem_cons_of_mem _ h1, h2⟩
theorem Fits.start {S : List Int} (h : Sts S) {L : List Sg} (hT : Tab L) (hm : ∀ s ∈ L, s.lo ∈ S) : Fits S (fun j => ow L (gt S j)) L := fun j k hk => by
  have e0 := h.ge hk.lt
  have e1 := h.top j hk.lt
  obtain ⟨s, q1, q2, q3, q4, q5⟩ := plc_facts hT.cov e0 e1
  have hs := List.mem_of_getElem? q1
  show ow L k = ow L (gt S j)
  rw [← q4]
  refine ow_mem hT.cov hs (by have := hk.lo; omega) ?_
  rcases Int.lt_or_le s.hi k with c | c
  · exfalso
    have k1 : k < 18446744073709551616 := by have := h.nxtop j; have := hk.hi; omega
    obtain ⟨s', h1, h2⟩ := cov_next hT.cov hs (by omega)
    obtain ⟨i, i1, i2⟩ := gt_mem.1 (hm s' h1)
    have : j < i := by
      rcases Nat.lt_or_ge j i with c | c
      · exact c
      · by_cases e : i = j
        · subst e; omega
        · have := h.inc i j (by omega) hk.lt; omega
    have := h.nxle this i1
    have := hk.hi
    omega
  · exact c
/-- a part as a segment -/
def prt (S : List Int) (o : Nat → Int) (j : Nat) : Sg := ⟨gt S j, nx S j - 1, o j⟩
/-- the segments of the first parts -/
def rk (S : List Int) (o : Nat → Int) (i : Nat) : List Sg := lays [] ((List.range i).map (prt S o))
theorem rk_succ (S : List Int) (o : Nat → Int) (i : Nat) : rk S o (i + 1) = lay (rk S o i) (prt S o i) := by
  unfold rk
  rw [List.range_succ, List.map_append, List.map_cons, List.map_nil, lays_snoc]
theorem rk_cov {S : List Int} (h : Sts S) (o : Nat → Int) : ∀ i, 0 < i → i ≤ S.length → Cov 0 (rk S o i) (nx S (i - 1)) ∧ Alt (rk S o i) ∧ ∀ j k, j < i → Inp S j k → ow (rk S o i) k = o j
  | 0, h0, _ => by omega
  | 1, _, hl => by
    have e : rk S o 1 = [prt S o 0] := rfl
    have := h.nxgt (i := 0) h.ne
    refine ⟨?_, ?_, ?_⟩
    · rw [e]; refine ⟨h.zero, ?_, ?_⟩
      · show (0 : Int) ≤ nx S 0 - 1
        have := h.zero; omega
      · show nx S 0 - 1 + 1 = nx S (1 - 1)
        show nx S 0 - 1 + 1 = nx S 0
        omega
    · rw [e]; trivial
    · intro j k hj hk
      obtain rfl : j = 0 := by omega
      rw [e]
      show (if k ≤ nx S 0 - 1 then o 0 else _) = o 0
      have := hk.hi
      rw [if_pos (by omega)]
  | i + 2, _, hl => by
    obtain ⟨c1, c2, c3⟩ := rk_cov h o (i + 1) (by omega) (by omega)
    rw [rk_succ]
    have e1 : nx S (i + 1 - 1) = gt S (i + 1) := by show nx S i = _; unfold nx; rw [if_pos (by omega)]
    have e2 := h.nxgt (i := i + 1) (by omega)
    obtain ⟨d1, d2⟩ := lay_cov (s := prt S o (i + 1)) c1 e1.symm (by show _ ≤ nx S (i + 1) - 1; omega) (b := nx S (i + 1)) (by show nx S (i + 1) - 1 + 1 = _; omega)
    refine ⟨d1, lay_alt _ _ c2, fun j k hj hk => ?_⟩
    have k0 : 0 ≤ k := by have := h.ge hk.lt; have := hk.lo; omega
    by_cases c : j < i + 1
    · have := h.nxle (i := j) (j := i + 1) c (by omega)
      have := hk.hi
      rw [d2 k k0 (by omega), if_pos (by omega)]
      exact c3 j k c hk
    · obtain rfl : j = i + 1 := by omega
      have := hk.lo
      have := hk.hi
      rw [d2 k k0 (by omega), if_neg (by omega)]
      rfl
theorem rk_all {S : List Int} (h : Sts S) {o : Nat → Int} {L : List Sg} (hT : Tab L) (hF : Fits S o L) : rk S o S.length = L := by
  obtain ⟨c1, c2, c3⟩ := rk_cov h o S.length h.ne (Nat.le_refl _)
  have e : nx S (S.length - 1) = 18446744073709551616 := by unfold nx; rw [if_neg (by have := h.ne; omega)]
  rw [e] at c1
  refine cov_unique c1 hT.cov c2 hT.alt (fun k k0 k1 => ?_)
  obtain ⟨j, hj⟩ := h.part k0 k1
  rw [c3 j k hj.lt hj, hF j k hj]
/-- the list while it is made: its last segment reaches to the end -/
def Rp (S : List Int) (o : Nat → Int) (i : Nat) (R : List Sg) : Prop := (i = 0 ∧ R = []) ∨ (0 < i ∧ ∃ A lo h, R = A ++ [⟨lo, 18446744073709551615, h⟩] ∧ rk S o i = A ++ [⟨lo, nx S (i - 1) - 1, h⟩])
theorem Rp.same {S : List Int} {o : Nat → Int} {i : Nat} {A : List Sg} {lo h : Int} (hi : 0 < i) (hR : rk S o i = A ++ [⟨lo, nx S (i - 1) - 1, h⟩]) (e : h = o i) : Rp S o (i + 1) (A ++ [⟨lo, 18446744073709551615, h⟩]) := by
  refine .inr ⟨by omega, A, lo, h, rfl, ?_⟩
  rw [rk_succ, hR, lay_snoc, if_pos (by exact e)]
  rfl
theorem Rp.more {S : List Int} {o : Nat → Int} {i : Nat} {A : List Sg} {lo h : Int} (hi : 0 < i) (hl : i < S.length) (hR : rk S o i = A ++ [⟨lo, nx S (i - 1) - 1, h⟩]) (e : h ≠ o i) : Rp S o (i + 1) (A ++ [⟨lo, gt S i - 1, h⟩] ++ [⟨gt S i, 18446744073709551615, o i⟩]) := by
  have e1 : nx S (i - 1) = gt S i := by unfold nx; rw [if_pos (by omega), show i - 1 + 1 = i by omega]
  refine .inr ⟨by omega, A ++ [⟨lo, gt S i - 1, h⟩], gt S i, o i, rfl, ?_⟩
  rw [rk_succ, hR, lay_snoc, if_neg (by exact e), e1]
  rfl
theorem Rp.first {S : List Int} {o : Nat → Int} : Rp S o 1 [⟨gt S 0, 18446744073709551615, o 0⟩] := .inr ⟨by omega, [], gt S 0, o 0, rfl, rfl⟩
theorem Rp.last {S : List Int} (hS : Sts S) {o : Nat → Int} {R : List Sg} (h : Rp S o S.length R) : R = rk S o S.length := by
  rcases h with ⟨e, _⟩ | ⟨_, A, lo, x, rfl, e⟩
  · have := hS.ne; omega
  · have e2 : nx S (S.length - 1) = 18446744073709551616 := by unfold nx; rw [if_neg (by have := hS.ne; omega)]
    rw [e, e2]
    rfl
end Go.Proofs.Ytbifmcadllilhaa.Rg
namespace Go.Proofs.Ytbifmcadllilhaa.Rg
open Go.RowKit Go.Shelf Go.Sort
set_option linter.unusedVariables false
/-- the field in memory -/
structure Fd (w : World) (B fb sg ns cs pb : Nat) (S : List Int) : Prop where
  blk : w.heap[fb]? = some (.cells #[.slice (some ⟨sg, 0, none⟩) ns cs, .pointer (some ⟨pb, 0, none⟩)] 116 (0, 0))
  row : Dr w B sg ns cs S
theorem Fd.nu {w w' : World} {B fb sg ns cs pb : Nat} {S : List Int} (h : Fd w B fb sg ns cs pb S) (k : Kp Nu w w') : Fd w' B fb sg ns cs pb S := ⟨box2 h.blk k, h.row.nu k⟩
theorem Fd.c0 {w : World} {B fb sg ns cs pb : Nat} {S : List Int} (h : Fd w B fb sg ns cs pb S) : w.cell? ⟨fb, 0, none⟩ = some (.slice (some ⟨sg, 0, none⟩) ns cs) := by simp [World.cell?, h.blk]
theorem Fd.c1 {w : World} {B fb sg ns cs pb : Nat} {S : List Int} (h : Fd w B fb sg ns cs pb S) : w.cell? ⟨fb, 1, none⟩ = some (.pointer (some ⟨pb, 0, none⟩)) := by simp [World.cell?, h.blk]
set_option maxRecDepth 100000 in
set_option maxHeartbeats 1000000 in
theorem part1_89 {w : World} {B fb sg ns cs pb : Nat} {S : List Int} (h : Fd w B fb sg ns cs pb S) (kb tb : Nat) (key : Int) (hk : w.heap[kb]? = some (.cells #[.int .u64 key] 56 (0, 0))) (ht : w.heap[tb]? = some (.cells #[.pointer (some ⟨fb, 0, none⟩)] 72 (0, 0))) (i : Nat) (hi : i < ns) :
    Calls Try.prog 89 #[.int .i64 (i : Int), .pointer (some ⟨tb, 0, none⟩), .pointer (some ⟨kb, 0, none⟩)] w fun e w' => e = .returned (.bool (decide (gt S i > key))) ∧ w' = w.drew := by
  have mixed : Try.prog.follows .mixedOrders = true := by kernel_rfl
  obtain ⟨x0, _⟩ := h.row.at_ hi
  have c0 := h.c0
  have k1 := cell1 hk
  have k2 := cell1 ht
  have hiI : (i : Int) < (ns : Int) := by omega
  have hi0 : (0 : Int) ≤ (i : Int) := by omega
  have eti : (i : Int).toNat = i := by omega
  clear h
  go_enter Try.func89, Try.ntmps89
  go_wp2_with fail
  go_region
  go_wp2
  go_ret
  exact ⟨rfl, rfl⟩
theorem count_part {S : List Int} (h : Sts S) {key : Int} : ∀ n, n ≤ S.length → ∀ j, j ≤ n → (∀ i, i < n → (gt S i ≤ key ↔ i < j)) → (List.range n).countP (fun i => !(decide (gt S i > key))) = j
  | 0, _, j, hj, _ => by simp; omega
  | n + 1, hn, j, hj, hh => by
    rw [List.range_succ, List.countP_append]
    by_cases c : j ≤ n
    · rw [count_part h n (by omega) j c (fun i hi => hh i (by omega))]
      have := hh n (by omega)
      have d : ¬ gt S n ≤ key := fun hc => by have := this.1 hc; omega
      simp
      omega
    · obtain rfl : j = n + 1 := by omega
      rw [count_part h n (by omega) n (Nat.le_refl _) (fun i hi => by rw [hh i (by omega)]; omega)]
      have := (hh n (by omega)).2 (by omega)
      simp
      exact this
set_option maxRecDepth 100000 in
set_option maxHeartbeats 1000000 in
theorem part62 {w : World} {B fb sg ns cs pb : Nat} {S : List Int} (h : Fd w B fb sg ns cs pb S) (hS : Sts S) (hn : ns ≤ 1000000) (key : Int) (j : Nat) (hj : Inp S j key) :
    Calls Try.prog 62 #[.pointer (some ⟨fb, 0, none⟩), .int .u64 key] w fun e w' => e = .returned (.int .i64 (j : Int)) ∧ Kp Nu w w' := by
  have mixed : Try.prog.follows .mixedOrders = true := by kernel_rfl
  have K2 : Kp Nu w ((w.alloc (.cells #[.pointer (some ⟨fb, 0, none⟩)] 72)).alloc (.cells #[.int .u64 key] 56)) := (Kp.alloc w _ Nu).andAlloc _
  have T2 := h.nu K2
  have hl := h.row.len
  have x0 : ((w.alloc (.cells #[.pointer (some ⟨fb, 0, none⟩)] 72)).alloc (.cells #[.int .u64 key] 56)).heap[w.heap.size]? = some (.cells #[.pointer (some ⟨fb, 0, none⟩)] 72 (0, 0)) := (Below.heap_alloc _ _ _ (by simp)).trans (heap_alloc_new w _)
  have x1 : ((w.alloc (.cells #[.pointer (some ⟨fb, 0, none⟩)] 72)).alloc (.cells #[.int .u64 key] 56)).heap[w.heap.size + 1]? = some (.cells #[.int .u64 key] 56 (0, 0)) := by
    have := heap_alloc_new (w.alloc (.cells #[.pointer (some ⟨fb, 0, none⟩)] 72)) (.cells #[.int .u64 key] 56)
    rwa [World.size_alloc] at this
  generalize hW : (w.alloc (.cells #[.pointer (some ⟨fb, 0, none⟩)] 72)).alloc (.cells #[.int .u64 key] 56) = W at K2 T2 x0 x1
  have mono : ∀ i, i < ns → (gt S i ≤ key ↔ i < j + 1) := fun i hi => by
    constructor
    · intro c
      rcases Nat.lt_or_ge i (j + 1) with d | d
      · exact d
      · have := hS.nxle (i := j) (j := i) (by omega) (by omega); have := hj.hi; omega
    · intro c
      have := hj.lo
      by_cases e : i = j
      · subst e; exact this
      · have := hS.inc i j (by omega) hj.lt; omega
  have SE := Any.sort_Search Try.search 89 #[.pointer (some ⟨w.heap.size, 0, none⟩), .pointer (some ⟨w.heap.size + 1, 0, none⟩)] ns (fun i => decide (gt S i > key)) W (enters_of Try.func89 (by kernel_rfl) rfl) (by omega)
    (fun m os i hi => by
      have kk := kp_grow W m os
      refine (part1_89 (T2.nu kk) (w.heap.size + 1) w.heap.size key ((kk.block _ (blk_lt x1) (fun h => h)).trans x1) ((kk.block _ (blk_lt x0) (fun h => h)).trans x0) i hi).mono ?_
      rintro e w' ⟨rfl, rfl⟩
      exact ⟨rfl, 1, #[], by rw [grow_empty]; rfl⟩)
    (fun a c hac hc ha => by
      have m1 := mono a (by omega)
      have m2 := mono c (by omega)
      simp only [decide_eq_true_eq] at ha ⊢
      omega)
  rw [count_part hS ns (by omega) (j + 1) (by have := hj.lt; omega) mono] at SE
  change Calls Try.prog 70 _ _ _ at SE
  have c0 := T2.c0
  have HK := hide K2
  have ej : IntKind.i64.wrap (((j + 1 : Nat) : Int) - 1) = (j : Int) := by rw [IntKind.wrap_i64]; have := hj.lt; omega
  subst hW
  have hjl := hj.lt
  have j0 : (0 : Int) ≤ (j : Int) := by omega
  have j1 : (j : Int) ≤ 1000000 := by omega
  clear T2 h x0 x1 K2 mono hj hS hl hjl
  go_enter Try.func62, Try.ntmps62
  go_wp2_with (go_at_call 70; refine SE.mono ?_; rintro e w' ⟨rfl, q, os, rfl⟩)
  go_ret
  exact ⟨by first | rfl | (congr 2; omega), HK.out.andNu (kp_grow _ _ _)⟩
end Go.Proofs.Ytbifmcadllilhaa.Rg
namespace Go.Proofs.Ytbifmcadllilhaa.Rg
open Go.RowKit Go.Shelf Go.Sort
set_option linter.unusedVariables false
abbrev movV (m : Mv) : Value := .agg #[.int .u8 m.f, .int .u8 m.t, .int .u64 m.lo, .int .u64 m.hi, .int .i64 m.n]
/-- what playing a move answers -/
def PlB (w' : World) (Bo pb g c D : Nat) (o : Nat → Int) (m : Mv) (a b : Nat) (bo : Bool) : Prop :=
  (bo = true ∧ (∀ j, a ≤ j → j ≤ b → o j = m.f) ∧ ∃ t', OwT w' Bo pb g c D (fun j => if a ≤ j ∧ j ≤ b then m.t else o j) t') ∨ (bo = false ∧ ¬ ∀ j, a ≤ j → j ≤ b → o j = m.f)
set_option maxRecDepth 100000 in
set_option maxHeartbeats 600000 in
theorem play36 (w : World) (B fb sg ns cs pb Bo g c D : Nat) (S : List Int) (o : Nat → Int) (t : List Int) (hF : Fd w B fb sg ns cs pb S) (hO : OwT w Bo pb g c D o t) (hS : Sts S) (hn : ns ≤ 2 ^ D) (hD : 2 * 2 ^ D ≤ 1000000) (m : Mv) (hm : Mok m) (hb : MvB m) (a b : Nat) (ha : Inp S a m.lo) (hbp : Inp S b m.hi) (hab : a ≤ b) :
    Calls Try.prog 36 #[.pointer (some ⟨fb, 0, none⟩), movV m] w fun e w' => ∃ bo : Bool, e = .returned (.bool bo) ∧ PlB w' Bo pb g c D o m a b bo ∧ Kp (fun k => k = g) w w' := by
  have mixed : Try.prog.follows .mixedOrders = true := by kernel_rfl
  have hp := Nat.two_pow_pos D
  obtain ⟨w1, hw1⟩ : ∃ w1, w.alloc (.cells #[.int .u8 m.f, .int .u8 m.t, .int .u64 m.lo, .int .u64 m.hi, .int .i64 m.n] 59) = w1 := ⟨_, rfl⟩
  have kA : Kp Nu w w1 := by rw [← hw1]; exact Kp.alloc _ _ _
  have bA : w1.heap[w.heap.size]? = some (.cells #[.int .u8 m.f, .int .u8 m.t, .int .u64 m.lo, .int .u64 m.hi, .int .i64 m.n] 59 (0, 0)) := by rw [← hw1]; exact heap_alloc_new w _
  obtain ⟨y0, y1, y2, y3, y4⟩ := cell5 bA
  obtain ⟨mf, mt, lo, hi, mn⟩ := m
  simp only at *
  obtain ⟨ix, i1, i2⟩ : ∃ ix : Int → Nat, ix lo = a ∧ ix hi = b := by
    by_cases e : lo = hi
    · have : a = b := hS.one ha (by rw [e]; exact hbp)
      exact ⟨fun _ => a, rfl, this⟩
    · exact ⟨fun k => if k = lo then a else b, if_pos rfl, if_neg (fun h => e h.symm)⟩
  have PT : ∀ W K, Hid (K = lo ∨ K = hi) → Kp Nu w1 W → Calls Try.prog 62 #[.pointer (some ⟨fb, 0, none⟩), .int .u64 K] W fun e w' => e = .returned (.int .i64 (ix K : Int)) ∧ Kp Nu w1 w' := fun W K hK k => by
    rcases hK.out with rfl | rfl
    · rw [i1]; exact (part62 ((hF.nu kA).nu k) hS (by omega) _ a ha).mono (fun e w' h => ⟨h.1, k.andNu h.2⟩)
    · rw [i2]; exact (part62 ((hF.nu kA).nu k) hS (by omega) _ b hbp).mono (fun e w' h => ⟨h.1, k.andNu h.2⟩)
  have HS : ∀ W, Kp Nu w1 W → W.cell? ⟨w.heap.size, 2, none⟩ = some (.int .u64 lo) ∧ W.cell? ⟨w.heap.size, 3, none⟩ = some (.int .u64 hi) := fun W k => ⟨cell_nu y2 k, cell_nu y3 k⟩
  have hmt : mt ≠ 255 := by have : mt < 16 := hm.2.2.1; omega
  have hbl : b < 2 ^ D := by have := hbp.lt; have := hF.row.len; omega
  have HF := hide (And.intro (hF.nu kA) (And.intro (hO.nu kA) (And.intro bA kA)))
  have hgw : g < w.heap.size := hO.tr.lt
  clear hF hO ha hbp hm hS kA bA hb
  go_enter Try.func36, Try.ntmps36
  go_wp2_with fail
  go_region_held3 (fun W => W.cell? ⟨w.heap.size, 2, none⟩ = some (.int .u64 lo) ∧ W.cell? ⟨w.heap.size, 3, none⟩ = some (.int .u64 hi)) (first | (refine HS _ ?_; repeat (first | assumption | exact Kp.refl _ _ | apply Kp.drew))) (first | (go_at_call 62; refine (PT _ _ ?_ ?_).mono ?_; (first | exact hide (.inl rfl) | exact hide (.inr rfl)); (repeat (first | assumption | exact Kp.refl _ _ | apply Kp.drew)); rintro e w3 ⟨rfl, hk3⟩))
  obtain ⟨F1, O1, bA, kA⟩ := HF.out
  have F3 := F1.nu hk3
  have O3 := O1.nu hk3
  have b3 := box2 bA hk3
  obtain ⟨z0, z1, z2, z3, z4⟩ := cell5 b3
  have c1 := F3.c1
  have HF3 := hide (And.intro F3 (And.intro O3 (And.intro b3 (kA.andNu hk3))))
  have AA : ∀ W, Kp Nu w3 W → Calls Try.prog 63 #[.pointer (some ⟨pb, 0, none⟩), .int .i64 (a : Int), .int .i64 (b : Int), .int .u8 mf] W fun e w' => Pn.Ans (∀ j, a ≤ j → j ≤ b → o j = mf) e ∧ Kp Nu w3 w' := fun W k => (areAll63 W Bo pb g c D o t (O3.nu k) hD a b hab hbl mf).mono (fun e w' h => ⟨h.1, k.andNu h.2⟩)
  have HS : ∀ W, Kp Nu w3 W → W.cell? ⟨fb, 1, none⟩ = some (.pointer (some ⟨pb, 0, none⟩)) ∧ W.cell? ⟨w.heap.size, 0, none⟩ = some (.int .u8 mf) := fun W k => ⟨cell_nu c1 k, cell_nu z0 k⟩
  clear y0 y1 y2 y3 y4 PT F1 O1 bA kA F3 O3 b3 i1 i2 HF hw1
  clear hk3
  clear ix
  go_wp2_with fail
  go_region_held3 (fun W => W.cell? ⟨fb, 1, none⟩ = some (.pointer (some ⟨pb, 0, none⟩)) ∧ W.cell? ⟨w.heap.size, 0, none⟩ = some (.int .u8 mf)) (first | (refine HS _ ?_; repeat (first | assumption | exact Kp.refl _ _ | apply Kp.drew))) (first | (go_at_call 63; refine (AA _ ?_).mono ?_; (repeat (first | assumption | exact Kp.refl _ _ | apply Kp.drew)); rintro e w4 ⟨⟨bo, rfl, hbo⟩, hk4⟩))
  obtain ⟨F3, O3, b3, k3⟩ := HF3.out
  have O4 := O3.nu hk4
  have b4 := box2 b3 hk4
  have F4 := F3.nu hk4
  have HF4 := hide (And.intro O4 (k3.andNu hk4))
  have HB := hide hbo
  clear z0 z1 z2 z3 z4 c1
  obtain ⟨z0, z1, z2, z3, z4⟩ := cell5 b4
  have c1 := F4.c1
  cases bo with
  | false =>
    clear AA HS F3 O3 b3 k3 O4 b4 F4 hbo hk4 HF3
    go_wp2
    go_ret
    exact ⟨false, rfl, .inr ⟨rfl, fun h => by have := HB.out.2 h; cases this⟩, HF4.out.2.mono (fun _ _ e => e.elim)⟩
  | true =>
    have GG : ∀ W, Kp Nu w4 W → Calls Try.prog 64 #[.pointer (some ⟨pb, 0, none⟩), .int .i64 (a : Int), .int .i64 (b : Int), .int .u8 mt] W fun e w' => e = .returned (.tuple #[]) ∧ (∃ t', OwT w' Bo pb g c D (fun j => if a ≤ j ∧ j ≤ b then mt else o j) t') ∧ Kp (fun k => k = g) w4 w' := fun W k => (give64 W Bo pb g c D o t (O4.nu k) hD a b mt hmt).mono (fun e w' h => by
      obtain ⟨h1, t', h2, h3⟩ := h
      exact ⟨h1, ⟨t', h2⟩, (k.mono (fun _ _ e => e.elim)).trans h3 (fun _ _ e => e)⟩)
    have HS4 : ∀ W, Kp Nu w4 W → W.cell? ⟨fb, 1, none⟩ = some (.pointer (some ⟨pb, 0, none⟩)) ∧ W.cell? ⟨w.heap.size, 1, none⟩ = some (.int .u8 mt) := fun W k => ⟨cell_nu c1 k, cell_nu z1 k⟩
    have hfg : fb ≠ g := fun e => by
      obtain ⟨cur, h⟩ := own_obj O4.tr.own (g := g) rfl
      have := F4.blk
      rw [e, h] at this
      cases this
    have HS5 : ∀ W, Kp (fun k => k = g) w4 W → W.cell? ⟨fb, 1, none⟩ = some (.pointer (some ⟨pb, 0, none⟩)) ∧ W.cell? ⟨w.heap.size, 1, none⟩ = some (.int .u8 mt) := fun W k => ⟨by simp [World.cell?, blk_kp F4.blk k hfg], by simp [World.cell?, blk_kp b4 k (by omega)]⟩
    clear AA HS F3 O3 b3 k3 O4 b4 F4 hbo hk4 HF3
    go_wp2_with fail
    go_region_held3 (fun W => W.cell? ⟨fb, 1, none⟩ = some (.pointer (some ⟨pb, 0, none⟩)) ∧ W.cell? ⟨w.heap.size, 1, none⟩ = some (.int .u8 mt)) (first | (refine HS5 _ ?_; assumption; done) | (refine HS4 _ ?_; repeat (first | assumption | exact Kp.refl _ _ | apply Kp.drew))) (first | (go_at_call 64; refine (GG _ ?_).mono ?_; (repeat (first | assumption | exact Kp.refl _ _ | apply Kp.drew)); rintro e w5 ⟨rfl, hT5, hk5⟩))
    go_wp2
    go_ret
    exact ⟨true, rfl, .inl ⟨rfl, HB.out.1 (by first | trivial | rfl), hT5⟩, (HF4.out.2.mono (T := fun k => k = g) (fun _ _ e => e.elim)).trans hk5 (fun _ _ e => e)⟩
end Go.Proofs.Ytbifmcadllilhaa.Rg
