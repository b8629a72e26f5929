import Derived.Test.YtbifmcadllilhaaGreatPnB
import Derived.Sort.Defs
import Derived.StillTailTactics
import Derived.Sort.Grow
import Derived.Deep.Draws
import Derived.Shelf.SlSortCmp.NoneTotal
import Derived.Test.YtbifmcadllilhaaGreatProg
namespace Go.Proofs.YtbifmcadllilhaaGreat.Pn
open Go.RowKit
set_option linter.unusedVariables false
/-- loads that may be -/
def MBL (o : List Int) : Prop := 1 ≤ o.length ∧ o.length ≤ 16 ∧ ∀ x ∈ o, 0 ≤ x ∧ x ≤ 1073741824
set_option maxHeartbeats 1000000 in
theorem hosts41 (w : World) (n : Int) : Calls Tryz.prog 25 #[.int .i64 n] w fun e w' => Ans (1 ≤ n ∧ n ≤ 16) e ∧ w' = w := by
  by_cases h1 : 1 ≤ n
  · have d1 : decide (n ≥ 1) = true := by simpa using h1
    have H := hide h1
    clear h1
    go_enter Tryz.func25, Tryz.ntmps25
    go_wp2
    go_ret
    exact ⟨⟨_, rfl, by have := H.out; simp [this]⟩, rfl⟩
  · have d1 : decide (n ≥ 1) = false := by simpa using h1
    have H := hide h1
    clear h1
    go_enter Tryz.func25, Tryz.ntmps25
    go_wp2
    go_ret
    exact ⟨⟨_, rfl, by simp; have := H.out; omega⟩, rfl⟩
set_option maxRecDepth 100000 in
set_option maxHeartbeats 1000000 in
theorem mayBe27 (w : World) (u : Value) (o : List Int) (h : Ns w u o) (hN : o.length ≤ 140737488351232) : Calls Tryz.prog 36 #[u] w fun e w' => Ans (MBL o) e ∧ w' = w := by
  obtain ⟨a, cap, rfl, _, _⟩ := id h
  obtain ⟨N, eN⟩ : ∃ N, o.length = N := ⟨_, rfl⟩
  have HO := hosts41 w (N : Int)
  have HN := hide (And.intro h eN)
  rw [eN] at hN ⊢
  clear h eN
  go_enter Tryz.func36, Tryz.ntmps36
  go_wp2_with fail
  refine HO.mono ?_; rintro e w1 ⟨⟨b1, rfl, hb1⟩, hw⟩
  obtain rfl := hw
  have HB := hide hb1
  clear HO hb1
  cases b1 with
  | false =>
    go_wp2
    go_ret
    refine ⟨⟨false, rfl, ?_⟩, rfl⟩
    simp
    rintro ⟨q1, q2, _⟩
    have := HB.out.2 ⟨by have := HN.out.2; omega, by have := HN.out.2; omega⟩
    simp at this
  | true =>
  have hr : 1 ≤ o.length ∧ o.length ≤ 16 := by
    have := HB.out.1 (by simp)
    have := HN.out.2
    omega
  have MI := min54 w1 (.slice a N cap) o (by have q := HN.out.1; rw [HN.out.2] at q; exact q) hr.1 hr.2
  have MA := max29 w1 (.slice a N cap) o (by have q := HN.out.1; rw [HN.out.2] at q; exact q) hr.1 hr.2
  have HR := hide hr
  clear hr
  go_wp2_with fail
  refine MI.mono ?_; rintro e w2 ⟨⟨m, rfl, hm⟩, hw⟩
  obtain rfl := hw
  have HM := hide hm
  clear MI hm
  by_cases h0 : 0 ≤ m
  · have d0 : decide (m ≥ 0) = true := by simpa using h0
    have H0 := hide h0
    clear h0
    go_wp2_with fail
    refine MA.mono ?_; rintro e w3 ⟨⟨M, rfl, hM⟩, hw⟩
    obtain rfl := hw
    have HX := hide hM
    clear MA hM
    go_wp2
    go_ret
    refine ⟨⟨_, rfl, ?_⟩, rfl⟩
    simp only [decide_eq_true_eq]
    refine ⟨fun q => ⟨HR.out.1, HR.out.2, fun x hx => ?_⟩, fun q => (q.2.2 M HX.out.1).2⟩
    have := HM.out.2 x hx
    have := HX.out.2 x hx
    have := H0.out
    omega
  · have d0 : decide (m ≥ 0) = false := by simpa using h0
    have H0 := hide h0
    clear h0 MA
    go_wp2
    go_ret
    refine ⟨⟨false, rfl, ?_⟩, rfl⟩
    simp
    intro q
    have q1 := (q.2.2 m HM.out.1).1
    have := H0.out
    omega
theorem sum_snoc (o : List Int) (y : Int) : (o ++ [y]).sum = o.sum + y := by simp
theorem sum_bound {o : List Int} : ∀ (h : ∀ x ∈ o, 0 ≤ x ∧ x ≤ 1073741824), 0 ≤ o.sum ∧ o.sum ≤ (o.length : Int) * 1073741824 := by
  induction o with
  | nil => intro _; simp
  | cons x o ih =>
    intro h
    have h1 := h x (by simp)
    have h2 := ih (fun y hy => h y (by simp [hy]))
    simp only [List.sum_cons, List.length_cons]
    omega
theorem sum_take {o : List Int} (h : ∀ x ∈ o, 0 ≤ x ∧ x ≤ 1073741824) (h2 : o.length ≤ 16) (i : Nat) : 0 ≤ (o.take i).sum ∧ (o.take i).sum ≤ 17179869184 := by
  have := sum_bound (o := o.take i) (fun x hx => h x (List.mem_of_mem_take hx))
  rw [List.length_take] at this
  omega
set_option maxRecDepth 100000 in
set_option maxHeartbeats 1000000 in
theorem total28 (w : World) (u : Value) (o : List Int) (h : Ns w u o) (hm : MBL o) : Calls Tryz.prog 37 #[u] w fun e w' => e = .returned (.int .i64 o.sum) ∧ w' = w := by
  obtain ⟨a, cap, rfl, _, _⟩ := id h
  obtain ⟨N, eN⟩ : ∃ N, o.length = N := ⟨_, rfl⟩
  have HN := hide (And.intro h (And.intro eN hm))
  have hNI : (N : Int) ≤ 16 := by have := hm.2.1; omega
  rw [eN]
  clear h eN hm
  go_enter Tryz.func37, Tryz.ntmps37
  go_wp2
  go_loopw [3, 8] (fun sv iv wr => ∃ (i : Nat) (s : Int), iv = .int .i64 (i : Int) ∧ sv = .int .i64 s ∧ i ≤ N ∧ wr = w ∧ Hid (s = (o.take i).sum)) (fun _ iv _ => N - (intOf iv).toNat)
  case atStart => exact ⟨0, 0, rfl, rfl, Nat.zero_le _, rfl, hide (by simp)⟩
  case round =>
    obtain ⟨i, s, rfl, rfl, hi, hw, hI⟩ := hrel
    obtain rfl := hw
    have hi0 : (0 : Int) ≤ (i : Int) := by omega
    by_cases hlt : i < N
    · have hltI : (i : Int) < (N : Int) := by omega
      obtain ⟨y, hy⟩ : ∃ y, o[i]? = some y := ⟨_, List.getElem?_eq_getElem (by rw [HN.out.2.1]; exact hlt)⟩
      obtain ⟨b', e', hc⟩ := HN.out.1.at_ hy
      subst e'
      have hs := sum_take HN.out.2.2.2.2 HN.out.2.2.2.1 i
      have hs2 := sum_take HN.out.2.2.2.2 HN.out.2.2.2.1 (i + 1)
      rw [take_more hy, sum_snoc] at hs2
      rw [← hI.out] at hs hs2
      have ew : IntKind.i64.wrap (s + y) = s + y := by rw [IntKind.wrap_i64]; omega
      have ew2 : wrap64 (s + y) = s + y := by unfold wrap64; omega
      have HY := hide hy
      have eti : (i : Int).toNat = i := by omega
      clear hy hs hs2
      go_wp2
      refine ⟨⟨i + 1, s + y, by go_num, by first | rfl | (congr 1), by omega, trivial, hide ?_⟩, by simp [intOf]; omega⟩
      rw [take_more HY.out, sum_snoc, hI.out]
    · have hge : ¬ (i : Int) < (N : Int) := by omega
      have HE : Hid (s = o.sum) := hide (by
        have h := hI.out
        rw [List.take_of_length_le (by have := HN.out.2.1; omega)] at h
        exact h)
      go_wp2
      go_ret
      have q := HE.out
      exact ⟨by first | exact q | (simp [q]), rfl⟩
/-- what Total answers -/
def TtR (o : List Int) (e : Ending) : Prop := ∃ t, e = .returned (.int .i64 t) ∧ (MBL o ∧ t = o.sum ∨ ¬ MBL o ∧ t = -1)
end Go.Proofs.YtbifmcadllilhaaGreat.Pn
namespace Go.Proofs.YtbifmcadllilhaaGreat.Pn
open Go.RowKit
set_option linter.unusedVariables false
/-- host a comes ahead of host b -/
def ahd (o : List Int) (a b : Nat) : Bool := decide (o.getD b 0 < o.getD a 0 ∨ o.getD a 0 = o.getD b 0 ∧ a < b)
theorem ahd_self (o : List Int) (a : Nat) : ahd o a a = false := by simp [ahd]
theorem ahd_asymm {o : List Int} {a b : Nat} (h : ahd o a b = true) : ahd o b a = false := by
  simp only [ahd, decide_eq_true_eq, decide_eq_false_iff_not] at *
  omega
/-- how many of the first n come ahead -/
def nAhd (o : List Int) (b n : Nat) : Nat := (List.range n).countP (fun a => ahd o a b)
theorem nAhd_succ (o : List Int) (b n : Nat) : nAhd o b (n + 1) = nAhd o b n + (if ahd o n b = true then 1 else 0) := by
  unfold nAhd
  rw [List.range_succ, List.countP_append, List.countP_singleton]
theorem nAhd_le (o : List Int) (b n : Nat) : nAhd o b n ≤ n := by
  unfold nAhd
  have := List.countP_le_length (p := fun a => ahd o a b) (l := List.range n)
  simpa using this
/-- a host's target -/
def tgt (o : List Int) (b : Nat) : Int := o.sum / (o.length : Int) + (if (nAhd o b o.length : Int) < o.sum % (o.length : Int) then 1 else 0)
/-- the hosts in their order -/
structure Srt (o : List Int) (s : List Nat) : Prop where
  perm : s.Perm (List.range o.length)
  pair : s.Pairwise (fun a b => ahd o a b = true)
theorem Srt.len {o : List Int} {s : List Nat} (h : Srt o s) : s.length = o.length := by have := h.perm.length_eq; simpa using this
theorem Srt.lt {o : List Int} {s : List Nat} (h : Srt o s) {p x : Nat} (hx : s[p]? = some x) : x < o.length := by
  have := h.perm.mem_iff.1 (List.mem_of_getElem? hx)
  simpa using this
theorem Srt.place {o : List Int} {s : List Nat} (h : Srt o s) {p x : Nat} (hx : s[p]? = some x) : nAhd o x o.length = p := by
  have hp := (List.getElem?_eq_some_iff.1 hx).1
  have e : s = s.take p ++ x :: s.drop (p + 1) := by
    have h1 : s.drop p = x :: s.drop (p + 1) := by
      rw [List.drop_eq_getElem_cons hp]
      congr 1
      exact (List.getElem?_eq_some_iff.1 hx).2
    rw [← h1, List.take_append_drop]
  have hpair := h.pair
  rw [e, List.pairwise_append] at hpair
  obtain ⟨_, h2, h3⟩ := hpair
  rw [List.pairwise_cons] at h2
  unfold nAhd
  rw [← h.perm.countP_eq]
  conv => lhs; rw [e]
  rw [List.countP_append, List.countP_cons, ahd_self]
  have c1 : (s.take p).countP (fun a => ahd o a x) = (s.take p).length := List.countP_eq_length.2 (fun a ha => h3 a ha x (by simp))
  have c2 : (s.drop (p + 1)).countP (fun a => ahd o a x) = 0 := List.countP_eq_zero.2 (fun a ha => by rw [ahd_asymm (h2.1 a ha)]; simp)
  rw [c1, c2, List.length_take]
  simp
  omega
theorem Srt.nodup {o : List Int} {s : List Nat} (h : Srt o s) {p q x : Nat} (hp : s[p]? = some x) (hq : s[q]? = some x) : p = q := by
  rw [← h.place hp, ← h.place hq]
/-- every host has a place -/
theorem Srt.has {o : List Int} {s : List Nat} (h : Srt o s) {x : Nat} (hx : x < o.length) : ∃ p : Nat, s[p]? = some x := by
  have : x ∈ s := h.perm.mem_iff.2 (by simpa using hx)
  exact List.getElem?_of_mem this
end Go.Proofs.YtbifmcadllilhaaGreat.Pn
namespace Go.Proofs.YtbifmcadllilhaaGreat.Pn
open Go.RowKit
set_option linter.unusedVariables false
def cmpI (x y : Int) : Int := if x < y then -1 else if x > y then 1 else 0
set_option maxHeartbeats 1000000 in
theorem nan100 (x : Int) (w : World) : Calls Tryz.prog 97 #[.int .i64 x] w fun e w' => e = .returned (.bool false) ∧ w' = w := by
  have hx : (x != x) = false := by simp
  go_enter Tryz.func97, Tryz.ntmps97
  go_wp2
  go_ret
  exact ⟨by simp, rfl⟩
set_option maxHeartbeats 1000000 in
theorem compare81 (x y : Int) (w : World) : Calls Tryz.prog 86 #[.int .i64 x, .int .i64 y] w fun e w' => e = .returned (.int .i64 (cmpI x y)) ∧ w' = w := by
  have n1 := nan100 x w
  have n2 := nan100 y w
  unfold cmpI
  by_cases h1 : x < y
  · rw [if_pos h1]
    go_enter Tryz.func86, Tryz.ntmps86
    go_wp2_with fail
    refine n1.mono ?_; rintro e w2 ⟨rfl, hw⟩; obtain rfl := hw.symm; clear n1 hw
    go_wp2_with fail
    refine n2.mono ?_; rintro e w2 ⟨rfl, hw⟩; obtain rfl := hw.symm; clear n2 hw
    go_wp2
    go_ret
    exact ⟨rfl, rfl⟩
  · rw [if_neg h1]
    by_cases h2 : x > y
    · rw [if_pos h2]
      go_enter Tryz.func86, Tryz.ntmps86
      go_wp2_with fail
      refine n1.mono ?_; rintro e w2 ⟨rfl, hw⟩; obtain rfl := hw.symm; clear n1 hw
      go_wp2_with fail
      refine n2.mono ?_; rintro e w2 ⟨rfl, hw⟩; obtain rfl := hw.symm; clear n2 hw
      go_wp2
      go_ret
      exact ⟨rfl, rfl⟩
    · rw [if_neg h2]
      go_enter Tryz.func86, Tryz.ntmps86
      go_wp2_with fail
      refine n1.mono ?_; rintro e w2 ⟨rfl, hw⟩; obtain rfl := hw.symm; clear n1 hw
      go_wp2_with fail
      refine n2.mono ?_; rintro e w2 ⟨rfl, hw⟩; obtain rfl := hw.symm; clear n2 hw
      go_wp2
      go_ret
      exact ⟨rfl, rfl⟩
def orI (a b : Int) : Int := if a = 0 then b else a
set_option maxHeartbeats 1000000 in
theorem or80 (a b : Int) (g : Nat) (w : World) (c0 : w.cell? ⟨g, 0, none⟩ = some (.int .i64 a)) (c1 : w.cell? ⟨g, 1, none⟩ = some (.int .i64 b)) : Calls Tryz.prog 85 #[.slice (some ⟨g, 0, none⟩) 2 2] w fun e w' => e = .returned (.int .i64 (orI a b)) ∧ w' = w := by
  have HC := hide (And.intro c0 c1)
  clear c0 c1
  go_enter Tryz.func85, Tryz.ntmps85
  go_wp2
  go_loopw [8] (fun iv wr => ∃ i : Nat, iv = .int .i64 (i : Int) ∧ i ≤ 2 ∧ wr = w ∧ Hid ((1 ≤ i → a = 0) ∧ (2 ≤ i → b = 0))) (fun iv _ => 2 - (intOf iv).toNat)
  case atStart => exact ⟨0, rfl, by omega, rfl, hide ⟨fun h => by omega, fun h => by omega⟩⟩
  case round =>
    obtain ⟨i, rfl, hi, hw, hI⟩ := hrel
    obtain rfl := hw
    have hcase : i = 0 ∨ i = 1 ∨ i = 2 := by omega
    rcases hcase with h | h | h
    · subst h
      have c0 := HC.out.1
      by_cases ha : a = 0
      · have e0 : (a != 0) = false := by simpa using ha
        have HA := hide ha
        clear ha
        go_wp2
        exact ⟨⟨1, rfl, by omega, trivial, hide ⟨fun _ => HA.out, fun h => by omega⟩⟩, by simp [intOf]⟩
      · have e0 : (a != 0) = true := by simpa using ha
        have HA := hide ha
        clear ha
        go_wp2
        go_ret
        exact ⟨by unfold orI; rw [if_neg HA.out]; rfl, rfl⟩
    · subst h
      have c1 := HC.out.2
      have HA := hide (hI.out.1 (by omega))
      by_cases ha : b = 0
      · have e0 : (b != 0) = false := by simpa using ha
        have HB := hide ha
        clear ha
        go_wp2
        exact ⟨⟨2, rfl, by omega, trivial, hide ⟨fun _ => HA.out, fun h => HB.out⟩⟩, by simp [intOf]⟩
      · have e0 : (b != 0) = true := by simpa using ha
        clear ha
        go_wp2
        go_ret
        exact ⟨by unfold orI; rw [if_pos HA.out]; rfl, rfl⟩
    · subst h
      have HA := hide (And.intro (hI.out.1 (by omega)) (hI.out.2 (by omega)))
      go_wp2
      go_ret
      exact ⟨by unfold orI; rw [if_pos HA.out.1, HA.out.2]; rfl, rfl⟩
set_option maxRecDepth 100000 in
set_option maxHeartbeats 1000000 in
theorem less79 (x y : Nat) (p q : Int) (bx : Nat) (b : Addr) (N cap : Nat) (w : World) (hx : x < N) (hy : y < N) (cb : w.cell? ⟨bx, 0, none⟩ = some (.slice (some b) N cap)) (cx : w.cell? (b.add x) = some (.int .i64 p)) (cy : w.cell? (b.add y) = some (.int .i64 q)) :
    Calls Tryz.prog 84 #[.int .i64 (x : Int), .int .i64 (y : Int), .pointer (some ⟨bx, 0, none⟩)] w fun e w' => e = .returned (.int .i64 (orI (cmpI q p) (cmpI (x : Int) (y : Int)))) ∧ w' = (w.alloc (.cells #[.int .i64 (cmpI q p), .int .i64 (cmpI (x : Int) (y : Int))] 3)).drew := by
  have mixed : Tryz.prog.follows .mixedOrders = true := by kernel_rfl
  have C1 := compare81 q p w.drew
  have C2 := compare81 (x : Int) (y : Int) w.drew
  have hx0 : (0 : Int) ≤ (x : Int) := by omega
  have hy0 : (0 : Int) ≤ (y : Int) := by omega
  have hxN : (x : Int) < (N : Int) := by omega
  have hyN : (y : Int) < (N : Int) := by omega
  have etx : (x : Int).toNat = x := by omega
  have ety : (y : Int).toNat = y := by omega
  generalize cmpI q p = A at *
  generalize cmpI (x : Int) (y : Int) = B at *
  have OR := or80 A B w.heap.size (w.alloc (.cells #[.int .i64 A, .int .i64 B] 3)).drew (cellAt (heap_new w _) 0 rfl) (cellAt (heap_new w _) 1 rfl)
  go_enter Tryz.func84, Tryz.ntmps84
  go_wp2_with fail
  refine wp_region_still_tail 12 mixed (by kernel_rfl) ?_
  simp only [List.take_succ_cons, List.take_zero, List.drop_succ_cons, List.drop_zero]
  still_step
  still_step
  still_step
  still_step
  still_step
  still_step
  still_step
  still_step
  still_call C1
  still_step
  still_step
  still_call C2
  refine wpStill_nil ?_
  go_wp2_with fail
  refine OR.mono ?_; rintro e w2 ⟨rfl, hw⟩
  obtain rfl := hw
  clear OR C1 C2
  go_wp2
  go_ret
  exact ⟨rfl, rfl⟩
end Go.Proofs.YtbifmcadllilhaaGreat.Pn
namespace Go.Proofs.YtbifmcadllilhaaGreat.Pn
open Go.RowKit
set_option linter.unusedVariables false
/-- a host's number -/
structure Ho (N : Nat) where
  val : Nat
  lt : val < N
def rng (N : Nat) : List (Ho N) := (List.range N).pmap (fun x h => (⟨x, h⟩ : Ho N)) (fun x hx => List.mem_range.1 hx)
theorem rng_val (N : Nat) : (rng N).map (fun x => x.1) = List.range N := by
  unfold rng
  rw [List.map_pmap]
  simp
theorem rng_len (N : Nat) : (rng N).length = N := by simp [rng]
theorem rng_at (N j : Nat) (h : j < (rng N).length) : (rng N)[j].1 = j := by
  have e := congrArg (fun l => l[j]?) (rng_val N)
  simp only [List.getElem?_map, List.getElem?_eq_getElem h] at e
  rw [rng_len] at h
  simpa [h] using e
def cfH (o : List Int) {N : Nat} (x y : Ho N) : Int := orI (cmpI (o.getD y.1 0) (o.getD x.1 0)) (cmpI (x.1 : Int) (y.1 : Int))
theorem cfH_lt (o : List Int) {N : Nat} (x y : Ho N) : decide (cfH o x y < 0) = ahd o x.1 y.1 := by
  unfold cfH orI cmpI ahd
  generalize o.getD x.1 0 = p
  generalize o.getD y.1 0 = q
  rcases Int.lt_trichotomy q p with h | h | h
  · have h1 : ¬ p < q := by omega
    simp [h]
  · subst h
    simp
    by_cases h2 : x.1 < y.1
    · simp [h2]
    · by_cases h3 : x.1 > y.1 <;> simp [h2, h3]
  · have h1 : ¬ q < p := by omega
    have h2 : ¬ p = q := by omega
    simp [h1, h2, h]
/-- sorted, no two the same: each ahead of the next -/
theorem srt_of {o : List Int} {N : Nat} (hN : o.length = N) (l : List (Ho N)) (hp : l.Perm (rng N)) (hs : l.Pairwise (fun a b => (!decide (cfH o b a < 0)) = true)) : Srt o (l.map (fun x => x.1)) := by
  have hperm : (l.map (fun x => x.1)).Perm (List.range o.length) := by rw [hN, ← rng_val]; exact hp.map _
  refine ⟨hperm, ?_⟩
  have hnd : (l.map (fun x => x.1)).Nodup := hperm.nodup_iff.2 List.nodup_range
  rw [List.pairwise_map]
  have h2 : l.Pairwise (fun a b => a.1 ≠ b.1) := by
    have := hnd
    rw [List.Nodup, List.pairwise_map] at this
    exact this
  refine (hs.and h2).imp (fun {a b} h => ?_)
  obtain ⟨h3, h4⟩ := h
  rw [cfH_lt] at h3
  have h5 : ahd o b.1 a.1 = false := by simpa using h3
  simp only [ahd, decide_eq_false_iff_not, decide_eq_true_eq] at h5 ⊢
  omega
structure Gw (w w' : World) : Prop where
  out : ∃ q os, w' = Sort.grow (w.drewN q) os
theorem Gw.refl (w : World) : Gw w w := ⟨⟨0, #[], by rw [Sort.grow_empty]; rfl⟩⟩
theorem Gw.andAlloc {w w' : World} (h : Gw w w') (o : Obj) : Gw w (w'.alloc o) := by
  obtain ⟨q, os, rfl⟩ := h.out
  exact ⟨⟨q, _, by rw [Sort.alloc_eq_grow, Sort.grow_grow]⟩⟩
theorem Gw.drew {w w' : World} (h : Gw w w') : Gw w w'.drew := by
  obtain ⟨q, os, rfl⟩ := h.out
  exact ⟨⟨q + 1, os, rfl⟩⟩
end Go.Proofs.YtbifmcadllilhaaGreat.Pn
/-
  DERIVED: THE SHELF's CONTRACTS AT THIS DUMP, IN PLAIN WORDS (tools/lay-plain.mjs out of 'YtbifmcadllilhaaSfL.lean', which tools/lay-shelf.mjs wrote): THE SAME DECLARATIONS UNDER THE SAME NAMES: 'import', 'namespace', 'open', 'def', 'theorem' AND NOTHING ELSE: no command of the shelf's: FOR A HAND-IN. Each laying: the table of numbers ('.._ren') and one theorem, a field a fact of the dump's own or the kernel's comparison; each contract: ONE APPLICATION.
-/
namespace Go.Proofs
open Go.Shelf
def Tryz.sortI_ren : Go.Shelf.Ren := ⟨fun | 6 => 83 | 15 => 91 | 14 => 96 | 28 => 107 | 29 => 108 | 20 => 109 | 21 => 110 | 22 => 111 | 23 => 112 | 24 => 113 | 25 => 114 | 26 => 115 | 27 => 116 | 46 => 123 | 47 => 118 | 48 => 119 | 49 => 124 | 50 => 125 | 57 => 127 | n => n, fun | 22 => 45 | 24 => 3 | 25 => 147 | 3 => 3 | 39 => 123 | 0 => 0 | 53 => 168 | 55 => 24 | 4 => 4 | 46 => 160 | 45 => 159 | 50 => 165 | 5 => 5 | 9 => 9 | 66 => 174 | 70 => 178 | 76 => 183 | 77 => 65 | n => n, fun | n => n⟩
theorem Tryz.sortI : Go.Proofs.SlLaysF.n6 Tryz.prog Tryz.sortI_ren := {
  mixed := by kernel_rfl
  f6 := ⟨Tryz.f83.name, by decide, Tryz.func83.trans (congrArg some (by kernel_rfl))⟩
  f14 := ⟨Tryz.f96.name, by decide, Tryz.func96.trans (congrArg some (by kernel_rfl))⟩
  f15 := Tryz.func91.trans (congrArg some (by kernel_rfl))
  f20 := ⟨Tryz.f109.name, by decide, Tryz.func109.trans (congrArg some (by kernel_rfl))⟩
  f21 := ⟨Tryz.f110.name, by decide, Tryz.func110.trans (congrArg some (by kernel_rfl))⟩
  f22 := ⟨Tryz.f111.name, by decide, Tryz.func111.trans (congrArg some (by kernel_rfl))⟩
  f23 := ⟨Tryz.f112.name, by decide, Tryz.func112.trans (congrArg some (by kernel_rfl))⟩
  f24 := ⟨Tryz.f113.name, by decide, Tryz.func113.trans (congrArg some (by kernel_rfl))⟩
  f25 := ⟨Tryz.f114.name, by decide, Tryz.func114.trans (congrArg some (by kernel_rfl))⟩
  f26 := ⟨Tryz.f115.name, by decide, Tryz.func115.trans (congrArg some (by kernel_rfl))⟩
  f27 := ⟨Tryz.f116.name, by decide, Tryz.func116.trans (congrArg some (by kernel_rfl))⟩
  f28 := Tryz.func107.trans (congrArg some (by kernel_rfl))
  f29 := Tryz.func108.trans (congrArg some (by kernel_rfl))
  f46 := ⟨Tryz.f123.name, by decide, Tryz.func123.trans (congrArg some (by kernel_rfl))⟩
  f47 := Tryz.func118.trans (congrArg some (by kernel_rfl))
  f48 := Tryz.func119.trans (congrArg some (by kernel_rfl))
  f49 := ⟨Tryz.f124.name, by decide, Tryz.func124.trans (congrArg some (by kernel_rfl))⟩
  f50 := ⟨Tryz.f125.name, by decide, Tryz.func125.trans (congrArg some (by kernel_rfl))⟩
  f57 := ⟨Tryz.f127.name, by decide, Tryz.func127.trans (congrArg some (by kernel_rfl))⟩
  t0 := Tryz.underlying0
  a0 := Tryz.isAgg0
  z0 := Tryz.sizeOf0
  v0 := Tryz.zeroValue0
  t3 := Tryz.underlying3
  a3 := Tryz.isAgg3
  z3 := Tryz.sizeOf3
  v3 := Tryz.zeroValue3
  t4 := Tryz.underlying4
  a4 := Tryz.isAgg4
  z4 := Tryz.sizeOf4
  v4 := Tryz.zeroValue4
  t5 := Tryz.underlying5
  a5 := Tryz.isAgg5
  z5 := Tryz.sizeOf5
  v5 := Tryz.zeroValue5
  t9 := Tryz.underlying9
  a9 := Tryz.isAgg9
  z9 := Tryz.sizeOf9
  v9 := Tryz.zeroValue9
  t22 := Tryz.underlying45
  a22 := Tryz.isAgg45
  z22 := Tryz.sizeOf45
  v22 := Tryz.zeroValue45
  a24 := Tryz.isAgg3
  z24 := Tryz.sizeOf3
  t25 := Tryz.underlying147
  a25 := Tryz.isAgg147
  z25 := Tryz.sizeOf147
  v25 := Tryz.zeroValue147
  t39 := Tryz.underlying123
  a39 := Tryz.isAgg123
  z39 := Tryz.sizeOf123
  v39 := Tryz.zeroValue123
  t45 := Tryz.underlying159
  a45 := Tryz.isAgg159
  z45 := Tryz.sizeOf159
  v45 := Tryz.zeroValue159
  t46 := Tryz.underlying160
  a46 := Tryz.isAgg160
  z46 := Tryz.sizeOf160
  v46 := Tryz.zeroValue160
  t50 := Tryz.underlying165
  a50 := Tryz.isAgg165
  z50 := Tryz.sizeOf165
  v50 := Tryz.zeroValue165
  t53 := Tryz.underlying168
  a53 := Tryz.isAgg168
  z53 := Tryz.sizeOf168
  v53 := Tryz.zeroValue168
  t55 := Tryz.underlying24
  a55 := Tryz.isAgg24
  z55 := Tryz.sizeOf24
  v55 := Tryz.zeroValue24
  t66 := Tryz.underlying174
  a66 := Tryz.isAgg174
  z66 := Tryz.sizeOf174
  v66 := Tryz.zeroValue174
  t70 := Tryz.underlying178
  a70 := Tryz.isAgg178
  z70 := Tryz.sizeOf178
  v70 := Tryz.zeroValue178
  t76 := Tryz.underlying183
  a76 := Tryz.isAgg183
  z76 := Tryz.sizeOf183
  v76 := Tryz.zeroValue183
  t77 := Tryz.underlying65
  a77 := Tryz.isAgg65
  z77 := Tryz.sizeOf65
  v77 := Tryz.zeroValue65 }
end Go.Proofs
