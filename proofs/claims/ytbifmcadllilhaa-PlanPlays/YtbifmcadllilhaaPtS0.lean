import Derived.Test.YtbifmcadllilhaaPnC
import Derived.Sort.Defs
import Derived.StillTailTactics
import Derived.Sort.Grow
import Derived.Deep.Draws
namespace Go.Proofs.Ytbifmcadllilhaa.Pn
open Go.RowKit
set_option linter.unusedVariables false
/-- host a comes ahead of host b -/
def ahd (o : List Int) (a b : Nat) : Bool := decide (o.getD b 0 < o.getD a 0 ∨ o.getD a 0 = o.getD b 0 ∧ a < b)
theorem ahd_self (o : List Int) (a : Nat) : ahd o a a = false := by simp [ahd]
theorem ahd_asymm {o : List Int} {a b : Nat} (h : ahd o a b = true) : ahd o b a = false := by
  simp only [ahd, decide_eq_true_eq, decide_eq_false_iff_not] at *
  omega
/-- how many of the first n come ahead -/
def nAhd (o : List Int) (b n : Nat) : Nat := (List.range n).countP (fun a => ahd o a b)
theorem nAhd_succ (o : List Int) (b n : Nat) : nAhd o b (n + 1) = nAhd o b n + (if ahd o n b = true then 1 else 0) := by
  unfold nAhd
  rw [List.range_succ, List.countP_append, List.countP_singleton]
theorem nAhd_le (o : List Int) (b n : Nat) : nAhd o b n ≤ n := by
  unfold nAhd
  have := List.countP_le_length (p := fun a => ahd o a b) (l := List.range n)
  simpa using this
/-- a host's target -/
def tgt (o : List Int) (b : Nat) : Int := o.sum / (o.length : Int) + (if (nAhd o b o.length : Int) < o.sum % (o.length : Int) then 1 else 0)
/-- the hosts in their order -/
structure Srt (o : List Int) (s : List Nat) : Prop where
  perm : s.Perm (List.range o.length)
  pair : s.Pairwise (fun a b => ahd o a b = true)
theorem Srt.len {o : List Int} {s : List Nat} (h : Srt o s) : s.length = o.length := by have := h.perm.length_eq; simpa using this
theorem Srt.lt {o : List Int} {s : List Nat} (h : Srt o s) {p x : Nat} (hx : s[p]? = some x) : x < o.length := by
  have := h.perm.mem_iff.1 (List.mem_of_getElem? hx)
  simpa using this
theorem Srt.place {o : List Int} {s : List Nat} (h : Srt o s) {p x : Nat} (hx : s[p]? = some x) : nAhd o x o.length = p := by
  have hp := (List.getElem?_eq_some_iff.1 hx).1
  have e : s = s.take p ++ x :: s.drop (p + 1) := by
    have h1 : s.drop p = x :: s.drop (p + 1) := by
      rw [List.drop_eq_getElem_cons hp]
      congr 1
      exact (List.getElem?_eq_some_iff.1 hx).2
    rw [← h1, List.take_append_drop]
  have hpair := h.pair
  rw [e, List.pairwise_append] at hpair
  obtain ⟨_, h2, h3⟩ := hpair
  rw [List.pairwise_cons] at h2
  unfold nAhd
  rw [← h.perm.countP_eq]
  conv => lhs; rw [e]
  rw [List.countP_append, List.countP_cons, ahd_self]
  have c1 : (s.take p).countP (fun a => ahd o a x) = (s.take p).length := List.countP_eq_length.2 (fun a ha => h3 a ha x (by simp))
  have c2 : (s.drop (p + 1)).countP (fun a => ahd o a x) = 0 := List.countP_eq_zero.2 (fun a ha => by rw [ahd_asymm (h2.1 a ha)]; simp)
  rw [c1, c2, List.length_take]
  simp
  omega
theorem Srt.nodup {o : List Int} {s : List Nat} (h : Srt o s) {p q x : Nat} (hp : s[p]? = some x) (hq : s[q]? = some x) : p = q := by
  rw [← h.place hp, ← h.place hq]
/-- every host has a place -/
theorem Srt.has {o : List Int} {s : List Nat} (h : Srt o s) {x : Nat} (hx : x < o.length) : ∃ p : Nat, s[p]? = some x := by
  have : x ∈ s := h.perm.mem_iff.2 (by simpa using hx)
  exact List.getElem?_of_mem this
end Go.Proofs.Ytbifmcadllilhaa.Pn
namespace Go.Proofs.Ytbifmcadllilhaa.Pn
open Go.RowKit
set_option linter.unusedVariables false
def cmpI (x y : Int) : Int := if x < y then -1 else if x > y then 1 else 0
set_option maxHeartbeats 1000000 in
theorem nan100 (x : Int) (w : World) : Calls Try.prog 100 #[.int .i64 x] w fun e w' => e = .returned (.bool false) ∧ w' = w := by
  have hx : (x != x) = false := by simp
  go_enter Try.func100, Try.ntmps100
  go_wp2
  go_ret
  exact ⟨by simp, rfl⟩
set_option maxHeartbeats 1000000 in
theorem compare81 (x y : Int) (w : World) : Calls Try.prog 81 #[.int .i64 x, .int .i64 y] w fun e w' => e = .returned (.int .i64 (cmpI x y)) ∧ w' = w := by
  have n1 := nan100 x w
  have n2 := nan100 y w
  unfold cmpI
  by_cases h1 : x < y
  · rw [if_pos h1]
    go_enter Try.func81, Try.ntmps81
    go_wp2_with fail
    refine n1.mono ?_; rintro e w2 ⟨rfl, hw⟩; obtain rfl := hw.symm; clear n1 hw
    go_wp2_with fail
    refine n2.mono ?_; rintro e w2 ⟨rfl, hw⟩; obtain rfl := hw.symm; clear n2 hw
    go_wp2
    go_ret
    exact ⟨rfl, rfl⟩
  · rw [if_neg h1]
    by_cases h2 : x > y
    · rw [if_pos h2]
      go_enter Try.func81, Try.ntmps81
      go_wp2_with fail
      refine n1.mono ?_; rintro e w2 ⟨rfl, hw⟩; obtain rfl := hw.symm; clear n1 hw
      go_wp2_with fail
      refine n2.mono ?_; rintro e w2 ⟨rfl, hw⟩; obtain rfl := hw.symm; clear n2 hw
      go_wp2
      go_ret
      exact ⟨rfl, rfl⟩
    · rw [if_neg h2]
      go_enter Try.func81, Try.ntmps81
      go_wp2_with fail
      refine n1.mono ?_; rintro e w2 ⟨rfl, hw⟩; obtain rfl := hw.symm; clear n1 hw
      go_wp2_with fail
      refine n2.mono ?_; rintro e w2 ⟨rfl, hw⟩; obtain rfl := hw.symm; clear n2 hw
      go_wp2
      go_ret
      exact ⟨rfl, rfl⟩
def orI (a b : Int) : Int := if a = 0 then b else a
set_option maxHeartbeats 1000000 in
theorem or80 (a b : Int) (g : Nat) (w : World) (c0 : w.cell? ⟨g, 0, none⟩ = some (.int .i64 a)) (c1 : w.cell? ⟨g, 1, none⟩ = some (.int .i64 b)) : Calls Try.prog 80 #[.slice (some ⟨g, 0, none⟩) 2 2] w fun e w' => e = .returned (.int .i64 (orI a b)) ∧ w' = w := by
  have HC := hide (And.intro c0 c1)
  clear c0 c1
  go_enter Try.func80, Try.ntmps80
  go_wp2
  go_loopw [8] (fun iv wr => ∃ i : Nat, iv = .int .i64 (i : Int) ∧ i ≤ 2 ∧ wr = w ∧ Hid ((1 ≤ i → a = 0) ∧ (2 ≤ i → b = 0))) (fun iv _ => 2 - (intOf iv).toNat)
  case atStart => exact ⟨0, rfl, by omega, rfl, hide ⟨fun h => by omega, fun h => by omega⟩⟩
  case round =>
    obtain ⟨i, rfl, hi, hw, hI⟩ := hrel
    obtain rfl := hw
    have hcase : i = 0 ∨ i = 1 ∨ i = 2 := by omega
    rcases hcase with h | h | h
    · subst h
      have c0 := HC.out.1
      by_cases ha : a = 0
      · have e0 : (a != 0) = false := by simpa using ha
        have HA := hide ha
        clear ha
        go_wp2
        exact ⟨⟨1, rfl, by omega, trivial, hide ⟨fun _ => HA.out, fun h => by omega⟩⟩, by simp [intOf]⟩
      · have e0 : (a != 0) = true := by simpa using ha
        have HA := hide ha
        clear ha
        go_wp2
        go_ret
        exact ⟨by unfold orI; rw [if_neg HA.out]; rfl, rfl⟩
    · subst h
      have c1 := HC.out.2
      have HA := hide (hI.out.1 (by omega))
      by_cases ha : b = 0
      · have e0 : (b != 0) = false := by simpa using ha
        have HB := hide ha
        clear ha
        go_wp2
        exact ⟨⟨2, rfl, by omega, trivial, hide ⟨fun _ => HA.out, fun h => HB.out⟩⟩, by simp [intOf]⟩
      · have e0 : (b != 0) = true := by simpa using ha
        clear ha
        go_wp2
        go_ret
        exact ⟨by unfold orI; rw [if_pos HA.out]; rfl, rfl⟩
    · subst h
      have HA := hide (And.intro (hI.out.1 (by omega)) (hI.out.2 (by omega)))
      go_wp2
      go_ret
      exact ⟨by unfold orI; rw [if_pos HA.out.1, HA.out.2]; rfl, rfl⟩
set_option maxRecDepth 100000 in
set_option maxHeartbeats 1000000 in
theorem less79 (x y : Nat) (p q : Int) (bx : Nat) (b : Addr) (N cap : Nat) (w : World) (hx : x < N) (hy : y < N) (cb : w.cell? ⟨bx, 0, none⟩ = some (.slice (some b) N cap)) (cx : w.cell? (b.add x) = some (.int .i64 p)) (cy : w.cell? (b.add y) = some (.int .i64 q)) :
    Calls Try.prog 79 #[.int .i64 (x : Int), .int .i64 (y : Int), .pointer (some ⟨bx, 0, none⟩)] w fun e w' => e = .returned (.int .i64 (orI (cmpI q p) (cmpI (x : Int) (y : Int)))) ∧ w' = (w.alloc (.cells #[.int .i64 (cmpI q p), .int .i64 (cmpI (x : Int) (y : Int))] 3)).drew := by
  have mixed : Try.prog.follows .mixedOrders = true := by kernel_rfl
  have C1 := compare81 q p w.drew
  have C2 := compare81 (x : Int) (y : Int) w.drew
  have hx0 : (0 : Int) ≤ (x : Int) := by omega
  have hy0 : (0 : Int) ≤ (y : Int) := by omega
  have hxN : (x : Int) < (N : Int) := by omega
  have hyN : (y : Int) < (N : Int) := by omega
  have etx : (x : Int).toNat = x := by omega
  have ety : (y : Int).toNat = y := by omega
  generalize cmpI q p = A at *
  generalize cmpI (x : Int) (y : Int) = B at *
  have OR := or80 A B w.heap.size (w.alloc (.cells #[.int .i64 A, .int .i64 B] 3)).drew (cellAt (heap_new w _) 0 rfl) (cellAt (heap_new w _) 1 rfl)
  go_enter Try.func79, Try.ntmps79
  go_wp2_with fail
  refine wp_region_still_tail 12 mixed (by kernel_rfl) ?_
  simp only [List.take_succ_cons, List.take_zero, List.drop_succ_cons, List.drop_zero]
  still_step
  still_step
  still_step
  still_step
  still_step
  still_step
  still_step
  still_step
  still_call C1
  still_step
  still_step
  still_call C2
  refine wpStill_nil ?_
  go_wp2_with fail
  refine OR.mono ?_; rintro e w2 ⟨rfl, hw⟩
  obtain rfl := hw
  clear OR C1 C2
  go_wp2
  go_ret
  exact ⟨rfl, rfl⟩
end Go.Proofs.Ytbifmcadllilhaa.Pn
namespace Go.Proofs.Ytbifmcadllilhaa.Pn
open Go.RowKit
set_option linter.unusedVariables false
/-- a host's number -/
structure Ho (N : Nat) where
  val : Nat
  lt : val < N
def rng (N : Nat) : List (Ho N) := (List.range N).pmap (fun x h => (⟨x, h⟩ : Ho N)) (fun x hx => List.mem_range.1 hx)
theorem rng_val (N : Nat) : (rng N).map (fun x => x.1) = List.range N := by
  unfold rng
  rw [List.map_pmap]
  simp
theorem rng_len (N : Nat) : (rng N).length = N := by simp [rng]
theorem rng_at (N j : Nat) (h : j < (rng N).length) : (rng N)[j].1 = j := by
  have e := congrArg (fun l => l[j]?) (rng_val N)
  simp only [List.getElem?_map, List.getElem?_eq_getElem h] at e
  rw [rng_len] at h
  simpa [h] using e
def cfH (o : List Int) {N : Nat} (x y : Ho N) : Int := orI (cmpI (o.getD y.1 0) (o.getD x.1 0)) (cmpI (x.1 : Int) (y.1 : Int))
theorem cfH_lt (o : List Int) {N : Nat} (x y : Ho N) : decide (cfH o x y < 0) = ahd o x.1 y.1 := by
  unfold cfH orI cmpI ahd
  generalize o.getD x.1 0 = p
  generalize o.getD y.1 0 = q
  rcases Int.lt_trichotomy q p with h | h | h
  · have h1 : ¬ p < q := by omega
    simp [h]
  · subst h
    simp
    by_cases h2 : x.1 < y.1
    · simp [h2]
    · by_cases h3 : x.1 > y.1 <;> simp [h2, h3]
  · have h1 : ¬ q < p := by omega
    have h2 : ¬ p = q := by omega
    simp [h1, h2, h]
/-- sorted, no two the same: each ahead of the next -/
theorem srt_of {o : List Int} {N : Nat} (hN : o.length = N) (l : List (Ho N)) (hp : l.Perm (rng N)) (hs : l.Pairwise (fun a b => (!decide (cfH o b a < 0)) = true)) : Srt o (l.map (fun x => x.1)) := by
  have hperm : (l.map (fun x => x.1)).Perm (List.range o.length) := by rw [hN, ← rng_val]; exact hp.map _
  refine ⟨hperm, ?_⟩
  have hnd : (l.map (fun x => x.1)).Nodup := hperm.nodup_iff.2 List.nodup_range
  rw [List.pairwise_map]
  have h2 : l.Pairwise (fun a b => a.1 ≠ b.1) := by
    have := hnd
    rw [List.Nodup, List.pairwise_map] at this
    exact this
  refine (hs.and h2).imp (fun {a b} h => ?_)
  obtain ⟨h3, h4⟩ := h
  rw [cfH_lt] at h3
  have h5 : ahd o b.1 a.1 = false := by simpa using h3
  simp only [ahd, decide_eq_false_iff_not, decide_eq_true_eq] at h5 ⊢
  omega
structure Gw (w w' : World) : Prop where
  out : ∃ q os, w' = Sort.grow (w.drewN q) os
theorem Gw.refl (w : World) : Gw w w := ⟨⟨0, #[], by rw [Sort.grow_empty]; rfl⟩⟩
theorem Gw.andAlloc {w w' : World} (h : Gw w w') (o : Obj) : Gw w (w'.alloc o) := by
  obtain ⟨q, os, rfl⟩ := h.out
  exact ⟨⟨q, _, by rw [Sort.alloc_eq_grow, Sort.grow_grow]⟩⟩
theorem Gw.drew {w w' : World} (h : Gw w w') : Gw w w'.drew := by
  obtain ⟨q, os, rfl⟩ := h.out
  exact ⟨⟨q + 1, os, rfl⟩⟩
end Go.Proofs.Ytbifmcadllilhaa.Pn
