import Derived.Test.YtbifmcadllilhaaGreatPnC
import Derived.Sort.Defs
import Derived.StillTailTactics
import Derived.Sort.Grow
import Derived.Deep.Draws
import Derived.Shelf.SlSortCmp.NoneTotal
import Derived.Test.YtbifmcadllilhaaGreatProg
namespace Go.Proofs.YtbifmcadllilhaaGreat.Pn
open Go.RowKit
set_option linter.unusedVariables false
/-- host a comes ahead of host b -/
def ahd (o : List Int) (a b : Nat) : Bool := decide (o.getD b 0 < o.getD a 0 ∨ o.getD a 0 = o.getD b 0 ∧ a < b)
theorem ahd_self (o : List Int) (a : Nat) : ahd o a a = false := by simp [ahd]
theorem ahd_asymm {o : List Int} {a b : Nat} (h : ahd o a b = true) : ahd o b a = false := by
  simp only [ahd, decide_eq_true_eq, decide_eq_false_iff_not] at *
  omega
/-- how many of the first n come ahead -/
def nAhd (o : List Int) (b n : Nat) : Nat := (List.range n).countP (fun a => ahd o a b)
theorem nAhd_succ (o : List Int) (b n : Nat) : nAhd o b (n + 1) = nAhd o b n + (if ahd o n b = true then 1 else 0) := by
  unfold nAhd
  rw [List.range_succ, List.countP_append, List.countP_singleton]
theorem nAhd_le (o : List Int) (b n : Nat) : nAhd o b n ≤ n := by
  unfold nAhd
  have := List.countP_le_length (p := fun a => ahd o a b) (l := List.range n)
  simpa using this
/-- a host's target -/
def tgt (o : List Int) (b : Nat) : Int := o.sum / (o.length : Int) + (if (nAhd o b o.length : Int) < o.sum % (o.length : Int) then 1 else 0)
/-- the hosts in their order -/
structure Srt (o : List Int) (s : List Nat) : Prop where
  perm : s.Perm (List.range o.length)
  pair : s.Pairwise (fun a b => ahd o a b = true)
theorem Srt.len {o : List Int} {s : List Nat} (h : Srt o s) : s.length = o.length := by have := h.perm.length_eq; simpa using this
theorem Srt.lt {o : List Int} {s : List Nat} (h : Srt o s) {p x : Nat} (hx : s[p]? = some x) : x < o.length := by
  have := h.perm.mem_iff.1 (List.mem_of_getElem? hx)
  simpa using this
theorem Srt.place {o : List Int} {s : List Nat} (h : Srt o s) {p x : Nat} (hx : s[p]? = some x) : nAhd o x o.length = p := by
  have hp := (List.getElem?_eq_some_iff.1 hx).1
  have e : s = s.take p ++ x :: s.drop (p + 1) := by
    have h1 : s.drop p = x :: s.drop (p + 1) := by
      rw [List.drop_eq_getElem_cons hp]
      congr 1
      exact (List.getElem?_eq_some_iff.1 hx).2
    rw [← h1, List.take_append_drop]
  have hpair := h.pair
  rw [e, List.pairwise_append] at hpair
  obtain ⟨_, h2, h3⟩ := hpair
  rw [List.pairwise_cons] at h2
  unfold nAhd
  rw [← h.perm.countP_eq]
  conv => lhs; rw [e]
  rw [List.countP_append, List.countP_cons, ahd_self]
  have c1 : (s.take p).countP (fun a => ahd o a x) = (s.take p).length := List.countP_eq_length.2 (fun a ha => h3 a ha x (by simp))
  have c2 : (s.drop (p + 1)).countP (fun a => ahd o a x) = 0 := List.countP_eq_zero.2 (fun a ha => by rw [ahd_asymm (h2.1 a ha)]; simp)
  rw [c1, c2, List.length_take]
  simp
  omega
theorem Srt.nodup {o : List Int} {s : List Nat} (h : Srt o s) {p q x : Nat} (hp : s[p]? = some x) (hq : s[q]? = some x) : p = q := by
  rw [← h.place hp, ← h.place hq]
/-- every host has a place -/
theorem Srt.has {o : List Int} {s : List Nat} (h : Srt o s) {x : Nat} (hx : x < o.length) : ∃ p : Nat, s[p]? = some x := by
  have : x ∈ s := h.perm.mem_iff.2 (by simpa using hx)
  exact List.getElem?_of_mem this
end Go.Proofs.YtbifmcadllilhaaGreat.Pn
namespace Go.Proofs.YtbifmcadllilhaaGreat.Pn
open Go.RowKit
set_option linter.unusedVariables false
def cmpI (x y : Int) : Int := if x < y then -1 else if x > y then 1 else 0
set_option maxHeartbeats 1000000 in
theorem nan100 (x : Int) (w : World) : Calls Tryz.prog 97 #[.int .i64 x] w fun e w' => e = .returned (.bool false) ∧ w' = w := by
  have hx : (x != x) = false := by simp
  go_enter Tryz.func97, Tryz.ntmps97
  go_wp2
  go_ret
  exact ⟨by simp, rfl⟩
set_option maxHeartbeats 1000000 in
theorem compare81 (x y : Int) (w : World) : Calls Tryz.prog 86 #[.int .i64 x, .int .i64 y] w fun e w' => e = .returned (.int .i64 (cmpI x y)) ∧ w' = w := by
  have n1 := nan100 x w
  have n2 := nan100 y w
  unfold cmpI
  by_cases h1 : x < y
  · rw [if_pos h1]
    go_enter Tryz.func86, Tryz.ntmps86
    go_wp2_with fail
    refine n1.mono ?_; rintro e w2 ⟨rfl, hw⟩; obtain rfl := hw.symm; clear n1 hw
    go_wp2_with fail
    refine n2.mono ?_; rintro e w2 ⟨rfl, hw⟩; obtain rfl := hw.symm; clear n2 hw
    go_wp2
    go_ret
    exact ⟨rfl, rfl⟩
  · rw [if_neg h1]
    by_cases h2 : x > y
    · rw [if_pos h2]
      go_enter Tryz.func86, Tryz.ntmps86
      go_wp2_with fail
      refine n1.mono ?_; rintro e w2 ⟨rfl, hw⟩; obtain rfl := hw.symm; clear n1 hw
      go_wp2_with fail
      refine n2.mono ?_; rintro e w2 ⟨rfl, hw⟩; obtain rfl := hw.symm; clear n2 hw
      go_wp2
      go_ret
      exact ⟨rfl, rfl⟩
    · rw [if_neg h2]
      go_enter Tryz.func86, Tryz.ntmps86
      go_wp2_with fail
      refine n1.mono ?_; rintro e w2 ⟨rfl, hw⟩; obtain rfl := hw.symm; clear n1 hw
      go_wp2_with fail
      refine n2.mono ?_; rintro e w2 ⟨rfl, hw⟩; obtain rfl := hw.symm; clear n2 hw
      go_wp2
      go_ret
      exact ⟨rfl, rfl⟩
def orI (a b : Int) : Int := if a = 0 then b else a
set_option maxHeartbeats 1000000 in
theorem or80 (a b : Int) (g : Nat) (w : World) (c0 : w.cell? ⟨g, 0, none⟩ = some (.int .i64 a)) (c1 : w.cell? ⟨g, 1, none⟩ = some (.int .i64 b)) : Calls Tryz.prog 85 #[.slice (some ⟨g, 0, none⟩) 2 2] w fun e w' => e = .returned (.int .i64 (orI a b)) ∧ w' = w := by
  have HC := hide (And.intro c0 c1)
  clear c0 c1
  go_enter Tryz.func85, Tryz.ntmps85
  go_wp2
  go_loopw [8] (fun iv wr => ∃ i : Nat, iv = .int .i64 (i : Int) ∧ i ≤ 2 ∧ wr = w ∧ Hid ((1 ≤ i → a = 0) ∧ (2 ≤ i → b = 0))) (fun iv _ => 2 - (intOf iv).toNat)
  case atStart => exact ⟨0, rfl, by omega, rfl, hide ⟨fun h => by omega, fun h => by omega⟩⟩
  case round =>
    obtain ⟨i, rfl, hi, hw, hI⟩ := hrel
    obtain rfl := hw
    have hcase : i = 0 ∨ i = 1 ∨ i = 2 := by omega
    rcases hcase with h | h | h
    · subst h
      have c0 := HC.out.1
      by_cases ha : a = 0
      · have e0 : (a != 0) = false := by simpa using ha
        have HA := hide ha
        clear ha
        go_wp2
        exact ⟨⟨1, rfl, by omega, trivial, hide ⟨fun _ => HA.out, fun h => by omega⟩⟩, by simp [intOf]⟩
      · have e0 : (a != 0) = true := by simpa using ha
        have HA := hide ha
        clear ha
        go_wp2
        go_ret
        exact ⟨by unfold orI; rw [if_neg HA.out]; rfl, rfl⟩
    · subst h
      have c1 := HC.out.2
      have HA := hide (hI.out.1 (by omega))
      by_cases ha : b = 0
      · have e0 : (b != 0) = false := by simpa using ha
        have HB := hide ha
        clear ha
        go_wp2
        exact ⟨⟨2, rfl, by omega, trivial, hide ⟨fun _ => HA.out, fun h => HB.out⟩⟩, by simp [intOf]⟩
      · have e0 : (b != 0) = true := by simpa using ha
        clear ha
        go_wp2
        go_ret
        exact ⟨by unfold orI; rw [if_pos HA.out]; rfl, rfl⟩
    · subst h
      have HA := hide (And.intro (hI.out.1 (by omega)) (hI.out.2 (by omega)))
      go_wp2
      go_ret
      exact ⟨by unfold orI; rw [if_pos HA.out.1, HA.out.2]; rfl, rfl⟩
set_option maxRecDepth 100000 in
set_option maxHeartbeats 1000000 in
theorem less79 (x y : Nat) (p q : Int) (bx : Nat) (b : Addr) (N cap : Nat) (w : World) (hx : x < N) (hy : y < N) (cb : w.cell? ⟨bx, 0, none⟩ = some (.slice (some b) N cap)) (cx : w.cell? (b.add x) = some (.int .i64 p)) (cy : w.cell? (b.add y) = some (.int .i64 q)) :
    Calls Tryz.prog 84 #[.int .i64 (x : Int), .int .i64 (y : Int), .pointer (some ⟨bx, 0, none⟩)] w fun e w' => e = .returned (.int .i64 (orI (cmpI q p) (cmpI (x : Int) (y : Int)))) ∧ w' = (w.alloc (.cells #[.int .i64 (cmpI q p), .int .i64 (cmpI (x : Int) (y : Int))] 3)).drew := by
  have mixed : Tryz.prog.follows .mixedOrders = true := by kernel_rfl
  have C1 := compare81 q p w.drew
  have C2 := compare81 (x : Int) (y : Int) w.drew
  have hx0 : (0 : Int) ≤ (x : Int) := by omega
  have hy0 : (0 : Int) ≤ (y : Int) := by omega
  have hxN : (x : Int) < (N : Int) := by omega
  have hyN : (y : Int) < (N : Int) := by omega
  have etx : (x : Int).toNat = x := by omega
  have ety : (y : Int).toNat = y := by omega
  generalize cmpI q p = A at *
  generalize cmpI (x : Int) (y : Int) = B at *
  have OR := or80 A B w.heap.size (w.alloc (.cells #[.int .i64 A, .int .i64 B] 3)).drew (cellAt (heap_new w _) 0 rfl) (cellAt (heap_new w _) 1 rfl)
  go_enter Tryz.func84, Tryz.ntmps84
  go_wp2_with fail
  refine wp_region_still_tail 12 mixed (by kernel_rfl) ?_
  simp only [List.take_succ_cons, List.take_zero, List.drop_succ_cons, List.drop_zero]
  still_step
  still_step
  still_step
  still_step
  still_step
  still_step
  still_step
  still_step
  still_call C1
  still_step
  still_step
  still_call C2
  refine wpStill_nil ?_
  go_wp2_with fail
  refine OR.mono ?_; rintro e w2 ⟨rfl, hw⟩
  obtain rfl := hw
  clear OR C1 C2
  go_wp2
  go_ret
  exact ⟨rfl, rfl⟩
end Go.Proofs.YtbifmcadllilhaaGreat.Pn
namespace Go.Proofs.YtbifmcadllilhaaGreat.Pn
open Go.RowKit
set_option linter.unusedVariables false
/-- a host's number -/
structure Ho (N : Nat) where
  val : Nat
  lt : val < N
def rng (N : Nat) : List (Ho N) := (List.range N).pmap (fun x h => (⟨x, h⟩ : Ho N)) (fun x hx => List.mem_range.1 hx)
theorem rng_val (N : Nat) : (rng N).map (fun x => x.1) = List.range N := by
  unfold rng
  rw [List.map_pmap]
  simp
theorem rng_len (N : Nat) : (rng N).length = N := by simp [rng]
theorem rng_at (N j : Nat) (h : j < (rng N).length) : (rng N)[j].1 = j := by
  have e := congrArg (fun l => l[j]?) (rng_val N)
  simp only [List.getElem?_map, List.getElem?_eq_getElem h] at e
  rw [rng_len] at h
  simpa [h] using e
def cfH (o : List Int) {N : Nat} (x y : Ho N) : Int := orI (cmpI (o.getD y.1 0) (o.getD x.1 0)) (cmpI (x.1 : Int) (y.1 : Int))
theorem cfH_lt (o : List Int) {N : Nat} (x y : Ho N) : decide (cfH o x y < 0) = ahd o x.1 y.1 := by
  unfold cfH orI cmpI ahd
  generalize o.getD x.1 0 = p
  generalize o.getD y.1 0 = q
  rcases Int.lt_trichotomy q p with h | h | h
  · have h1 : ¬ p < q := by omega
    simp [h]
  · subst h
    simp
    by_cases h2 : x.1 < y.1
    · simp [h2]
    · by_cases h3 : x.1 > y.1 <;> simp [h2, h3]
  · have h1 : ¬ q < p := by omega
    have h2 : ¬ p = q := by omega
    simp [h1, h2, h]
/-- sorted, no two the same: each ahead of the next -/
theorem srt_of {o : List Int} {N : Nat} (hN : o.length = N) (l : List (Ho N)) (hp : l.Perm (rng N)) (hs : l.Pairwise (fun a b => (!decide (cfH o b a < 0)) = true)) : Srt o (l.map (fun x => x.1)) := by
  have hperm : (l.map (fun x => x.1)).Perm (List.range o.length) := by rw [hN, ← rng_val]; exact hp.map _
  refine ⟨hperm, ?_⟩
  have hnd : (l.map (fun x => x.1)).Nodup := hperm.nodup_iff.2 List.nodup_range
  rw [List.pairwise_map]
  have h2 : l.Pairwise (fun a b => a.1 ≠ b.1) := by
    have := hnd
    rw [List.Nodup, List.pairwise_map] at this
    exact this
  refine (hs.and h2).imp (fun {a b} h => ?_)
  obtain ⟨h3, h4⟩ := h
  rw [cfH_lt] at h3
  have h5 : ahd o b.1 a.1 = false := by simpa using h3
  simp only [ahd, decide_eq_false_iff_not, decide_eq_true_eq] at h5 ⊢
  omega
structure Gw (w w' : World) : Prop where
  out : ∃ q os, w' = Sort.grow (w.drewN q) os
theorem Gw.refl (w : World) : Gw w w := ⟨⟨0, #[], by rw [Sort.grow_empty]; rfl⟩⟩
theorem Gw.andAlloc {w w' : World} (h : Gw w w') (o : Obj) : Gw w (w'.alloc o) := by
  obtain ⟨q, os, rfl⟩ := h.out
  exact ⟨⟨q, _, by rw [Sort.alloc_eq_grow, Sort.grow_grow]⟩⟩
theorem Gw.drew {w w' : World} (h : Gw w w') : Gw w w'.drew := by
  obtain ⟨q, os, rfl⟩ := h.out
  exact ⟨⟨q + 1, os, rfl⟩⟩
end Go.Proofs.YtbifmcadllilhaaGreat.Pn
/-
  DERIVED: THE SHELF's CONTRACTS AT THIS DUMP, IN PLAIN WORDS (tools/lay-plain.mjs out of 'YtbifmcadllilhaaSfL.lean', which tools/lay-shelf.mjs wrote): THE SAME DECLARATIONS UNDER THE SAME NAMES: 'import', 'namespace', 'open', 'def', 'theorem' AND NOTHING ELSE: no command of the shelf's: FOR A HAND-IN. Each laying: the table of numbers ('.._ren') and one theorem, a field a fact of the dump's own or the kernel's comparison; each contract: ONE APPLICATION.
-/
namespace Go.Proofs
open Go.Shelf
def Tryz.sortI_ren : Go.Shelf.Ren := ⟨fun | 6 => 83 | 15 => 91 | 14 => 96 | 28 => 107 | 29 => 108 | 20 => 109 | 21 => 110 | 22 => 111 | 23 => 112 | 24 => 113 | 25 => 114 | 26 => 115 | 27 => 116 | 46 => 123 | 47 => 118 | 48 => 119 | 49 => 124 | 50 => 125 | 57 => 127 | n => n, fun | 22 => 45 | 24 => 3 | 25 => 147 | 3 => 3 | 39 => 123 | 0 => 0 | 53 => 168 | 55 => 24 | 4 => 4 | 46 => 160 | 45 => 159 | 50 => 165 | 5 => 5 | 9 => 9 | 66 => 174 | 70 => 178 | 76 => 183 | 77 => 65 | n => n, fun | n => n⟩
theorem Tryz.sortI : Go.Proofs.SlLaysF.n6 Tryz.prog Tryz.sortI_ren := {
  mixed := by kernel_rfl
  f6 := ⟨Tryz.f83.name, by decide, Tryz.func83.trans (congrArg some (by kernel_rfl))⟩
  f14 := ⟨Tryz.f96.name, by decide, Tryz.func96.trans (congrArg some (by kernel_rfl))⟩
  f15 := Tryz.func91.trans (congrArg some (by kernel_rfl))
  f20 := ⟨Tryz.f109.name, by decide, Tryz.func109.trans (congrArg some (by kernel_rfl))⟩
  f21 := ⟨Tryz.f110.name, by decide, Tryz.func110.trans (congrArg some (by kernel_rfl))⟩
  f22 := ⟨Tryz.f111.name, by decide, Tryz.func111.trans (congrArg some (by kernel_rfl))⟩
  f23 := ⟨Tryz.f112.name, by decide, Tryz.func112.trans (congrArg some (by kernel_rfl))⟩
  f24 := ⟨Tryz.f113.name, by decide, Tryz.func113.trans (congrArg some (by kernel_rfl))⟩
  f25 := ⟨Tryz.f114.name, by decide, Tryz.func114.trans (congrArg some (by kernel_rfl))⟩
  f26 := ⟨Tryz.f115.name, by decide, Tryz.func115.trans (congrArg some (by kernel_rfl))⟩
  f27 := ⟨Tryz.f116.name, by decide, Tryz.func116.trans (congrArg some (by kernel_rfl))⟩
  f28 := Tryz.func107.trans (congrArg some (by kernel_rfl))
  f29 := Tryz.func108.trans (congrArg some (by kernel_rfl))
  f46 := ⟨Tryz.f123.name, by decide, Tryz.func123.trans (congrArg some (by kernel_rfl))⟩
  f47 := Tryz.func118.trans (congrArg some (by kernel_rfl))
  f48 := Tryz.func119.trans (congrArg some (by kernel_rfl))
  f49 := ⟨Tryz.f124.name, by decide, Tryz.func124.trans (congrArg some (by kernel_rfl))⟩
  f50 := ⟨Tryz.f125.name, by decide, Tryz.func125.trans (congrArg some (by kernel_rfl))⟩
  f57 := ⟨Tryz.f127.name, by decide, Tryz.func127.trans (congrArg some (by kernel_rfl))⟩
  t0 := Tryz.underlying0
  a0 := Tryz.isAgg0
  z0 := Tryz.sizeOf0
  v0 := Tryz.zeroValue0
  t3 := Tryz.underlying3
  a3 := Tryz.isAgg3
  z3 := Tryz.sizeOf3
  v3 := Tryz.zeroValue3
  t4 := Tryz.underlying4
  a4 := Tryz.isAgg4
  z4 := Tryz.sizeOf4
  v4 := Tryz.zeroValue4
  t5 := Tryz.underlying5
  a5 := Tryz.isAgg5
  z5 := Tryz.sizeOf5
  v5 := Tryz.zeroValue5
  t9 := Tryz.underlying9
  a9 := Tryz.isAgg9
  z9 := Tryz.sizeOf9
  v9 := Tryz.zeroValue9
  t22 := Tryz.underlying45
  a22 := Tryz.isAgg45
  z22 := Tryz.sizeOf45
  v22 := Tryz.zeroValue45
  a24 := Tryz.isAgg3
  z24 := Tryz.sizeOf3
  t25 := Tryz.underlying147
  a25 := Tryz.isAgg147
  z25 := Tryz.sizeOf147
  v25 := Tryz.zeroValue147
  t39 := Tryz.underlying123
  a39 := Tryz.isAgg123
  z39 := Tryz.sizeOf123
  v39 := Tryz.zeroValue123
  t45 := Tryz.underlying159
  a45 := Tryz.isAgg159
  z45 := Tryz.sizeOf159
  v45 := Tryz.zeroValue159
  t46 := Tryz.underlying160
  a46 := Tryz.isAgg160
  z46 := Tryz.sizeOf160
  v46 := Tryz.zeroValue160
  t50 := Tryz.underlying165
  a50 := Tryz.isAgg165
  z50 := Tryz.sizeOf165
  v50 := Tryz.zeroValue165
  t53 := Tryz.underlying168
  a53 := Tryz.isAgg168
  z53 := Tryz.sizeOf168
  v53 := Tryz.zeroValue168
  t55 := Tryz.underlying24
  a55 := Tryz.isAgg24
  z55 := Tryz.sizeOf24
  v55 := Tryz.zeroValue24
  t66 := Tryz.underlying174
  a66 := Tryz.isAgg174
  z66 := Tryz.sizeOf174
  v66 := Tryz.zeroValue174
  t70 := Tryz.underlying178
  a70 := Tryz.isAgg178
  z70 := Tryz.sizeOf178
  v70 := Tryz.zeroValue178
  t76 := Tryz.underlying183
  a76 := Tryz.isAgg183
  z76 := Tryz.sizeOf183
  v76 := Tryz.zeroValue183
  t77 := Tryz.underlying65
  a77 := Tryz.isAgg65
  z77 := Tryz.sizeOf65
  v77 := Tryz.zeroValue65 }
end Go.Proofs
namespace Go.Proofs.YtbifmcadllilhaaGreat.Pn
open Go.RowKit Go.Shelf Go.Sort
set_option linter.unusedVariables false
def encN {N : Nat} (x : Ho N) : Value := .int .i64 (x.val : Int)
theorem ltC (o : List Int) {N : Nat} (x y : Ho N) : ltOf (cfH o) x y = ahd o x.val y.val := cfH_lt o x y
theorem swoC (o : List Int) {N : Nat} : SWO (ltOf (cfH o (N := N))) where
  irrefl p := by rw [ltC]; exact ahd_self o _
  trans p q r h1 h2 := by
    rw [ltC] at *
    simp only [ahd, decide_eq_true_eq] at *
    omega
  ntrans p q r h1 h2 := by
    rw [ltC] at *
    simp only [ahd, decide_eq_false_iff_not] at *
    omega
theorem totC (o : List Int) {N : Nat} (p q : Ho N) (h1 : ltOf (cfH o) p q = false) (h2 : ltOf (cfH o) q p = false) : p = q := by
  rw [ltC] at *
  simp only [ahd, decide_eq_false_iff_not] at *
  cases p
  cases q
  simp only [Ho.mk.injEq]
  simp only at h1 h2
  omega
theorem grownE {w : World} {N g n : Nat} [Inhabited (Ho N)] {os : Array Obj} (d : Array (Ho N)) : w.grownBy (sortWorld encN w g 0 n d os) (some g) := by
  refine ⟨rfl, rfl, rfl, by simp [sortWorld], fun k hk hne => ?_⟩
  unfold sortWorld
  rw [heap_grow_old _ _ (by simpa using hk)]
  have : g ≠ k := fun e => hne (by rw [e])
  simp [putRow, mapBlock, Sort.ahead, Array.getElem?_modify, this]
theorem heapE {w : World} {N g n : Nat} [Inhabited (Ho N)] {os : Array Obj} {cur : Array Value} {e : TypeId} {fr : Nat × Nat} (d : Array (Ho N)) (hb : w.heap[g]? = some (.cells cur e fr)) :
    (sortWorld encN w g 0 n d os).heap[g]? = some (.cells (putCells encN 0 d cur) e fr) := by
  have hg : g < w.heap.size := (Array.getElem?_eq_some_iff.1 hb).1
  unfold sortWorld
  rw [heap_grow_old _ _ (by simpa using hg)]
  simp [putRow, mapBlock, Sort.ahead, Array.getElem?_modify, hb, onCells]
theorem takeE {N : Nat} [Inhabited (Ho N)] (cur : Array Value) (l : List (Ho N)) (h : l.length ≤ cur.size) : (putCells encN 0 l.toArray cur).toList.take l.length = l.map encN := by
  apply List.ext_getElem?
  intro j
  by_cases hj : j < l.length
  · rw [List.getElem?_take_of_lt hj, Array.getElem?_toList]
    simp [putCells, hj, show j < cur.size by omega]
  · rw [List.getElem?_take_eq_none (by omega), List.getElem?_eq_none (by simp; omega)]
/-- the hosts, as cells -/
def hcs (s : List Nat) : List Value := s.map (fun (x : Nat) => Value.int .i64 (x : Int))
set_option maxHeartbeats 1000000 in
theorem sort78 (w : World) (o : List Int) (N B g cap bx cp : Nat) (b : Addr) (hN : o.length = N) (hN1 : 1 ≤ N) (hN16 : N ≤ 16)
    (hrow : w.ownsRow B 3 1 (.slice (some ⟨g, 0, none⟩) N cap) N (hcs (List.range N)))
    (hbx : w.cell? ⟨bx, 0, none⟩ = some (.slice (some b) N cp)) (ho : ∀ (j : Nat) x, o[j]? = some x → w.cell? (b.add j) = some (.int .i64 x)) (hg1 : bx ≠ g) (hg2 : b.block ≠ g) :
    Calls Tryz.prog 83 #[.slice (some ⟨g, 0, none⟩) N cap, .func (.func 84) #[] #[.pointer (some ⟨bx, 0, none⟩)]] w fun e w' => e = .returned (.tuple #[]) ∧ (∃ s, Srt o s ∧ w'.ownsRow B 3 1 (.slice (some ⟨g, 0, none⟩) N cap) N (hcs s)) ∧ w.grownBy w' (some g) := by
  haveI : Inhabited (Ho N) := ⟨⟨0, hN1⟩⟩
  have eg : ∀ args w, (callFunc 84 args).run Tryz.prog w = .ok (.enter 84 args) w := enters_of Tryz.func84 (by kernel_rfl) rfl
  rcases hrow.2 with ⟨e, _⟩ | ⟨g', cap', cur, e, hb, hgb, h1, h2, h3, h4⟩
  · cases e
  simp only [Value.slice.injEq, Option.some.injEq, Addr.mk.injEq, and_true, true_and] at e
  obtain ⟨rfl, rfl⟩ := e
  have hsz : (rng N).toArray.size = N := by simp [rng_len]
  have hcur : N ≤ cur.size := by omega
  have hH : Holds encN w g 0 (rng N).toArray := by
    intro j hj
    rw [hsz] at hj
    refine ⟨?_, free3 hgb _⟩
    have hj2 : j < (rng N).length := by rw [rng_len]; exact hj
    have e1 : (rng N).toArray[j]! = (rng N)[j] := by rw [getElem!_pos _ j (by rw [hsz]; exact hj)]; simp
    rw [e1, Nat.zero_add]
    refine cellAt hgb j ?_
    have h5 : (hcs (List.range N))[j]? = some (.int .i64 (j : Int)) := by simp [hcs, hj]
    rw [← h4, List.getElem?_take_of_lt (by omega)] at h5
    unfold encN
    rw [rng_at N j hj2]
    simpa using h5
  have hcmp : CmpLays1 Tryz.prog 84 #[.pointer (some ⟨bx, 0, none⟩)] encN (cfH o (N := N)) g 0 (rng N).toArray.size w := fun m os dk hs x y => by
    have hgr : w.grownBy (sortWorld encN w g 0 m dk os) (some g) := grownE dk
    have keep : ∀ a v, w.cell? a = some v → a.block ≠ g → (sortWorld encN w g 0 m dk os).cell? a = some v := fun a v hc hne =>
      (World.cell?_of_block (hgr.block _ (World.block_lt_of_cell? w _ hc) (fun e => hne (by simpa using e)))).trans hc
    have hx : o[x.val]? = some (o.getD x.val 0) := by
      have hl : x.val < o.length := by rw [hN]; exact x.lt
      rw [List.getD_eq_getElem?_getD, List.getElem?_eq_getElem hl]
      rfl
    have hy : o[y.val]? = some (o.getD y.val 0) := by
      have hl : y.val < o.length := by rw [hN]; exact y.lt
      rw [List.getD_eq_getElem?_getD, List.getElem?_eq_getElem hl]
      rfl
    refine (less79 x.val y.val (o.getD x.val 0) (o.getD y.val 0) bx b N cp _ x.lt y.lt (keep _ _ hbx hg1) (keep _ _ (ho _ _ hx) (by rw [add_block]; exact hg2)) (keep _ _ (ho _ _ hy) (by rw [add_block]; exact hg2))).mono ?_
    rintro e w' ⟨rfl, rfl⟩
    exact ⟨rfl, (((Gw.refl _).andAlloc _).drew).out⟩
  have hcon := Any.slices_SortFunc_total Tryz.sortI encN (fun _ => rfl) (cfH o (N := N)) (swoC o) 84 #[.pointer (some ⟨bx, 0, none⟩)] g 0 cap (rng N).toArray w eg hcmp hH (Array.getElem?_eq_some_iff.1 hgb).1 (by rw [hsz]; omega) (totC o)
  rw [hsz] at hcon
  change Calls Tryz.prog 83 #[.slice (some ⟨g, 0, none⟩) N cap, .func (.func 84) #[] #[.pointer (some ⟨bx, 0, none⟩)]] w _ at hcon
  refine hcon.mono ?_
  rintro e w' ⟨rfl, n, os, rfl⟩
  obtain ⟨l, el⟩ : ∃ l, (rng N).mergeSort (fun x y => !ltOf (cfH o) y x) = l := ⟨_, rfl⟩
  have hp : l.Perm (rng N) := by rw [← el]; exact List.mergeSort_perm _ _
  have hs : l.Pairwise (fun a b => (!decide (cfH o b a < 0)) = true) := by
    rw [← el]
    refine List.pairwise_mergeSort (le := fun x y => !ltOf (cfH o) y x) (fun a b c h1 h2 => ?_) (fun a b => ?_) _
    · simp only [Bool.not_eq_true', ltC] at *
      simp only [ahd, decide_eq_false_iff_not] at *
      omega
    · simp only [Bool.or_eq_true, Bool.not_eq_true', ltC]
      simp only [ahd, decide_eq_false_iff_not]
      omega
  have hl : l.length = N := by rw [hp.length_eq, rng_len]
  refine ⟨rfl, ⟨l.map (fun x => x.val), srt_of hN l hp hs, ?_⟩, grownE _⟩
  have eL : (List.toArray ((rng N).toArray.toList.mergeSort (fun x y => !ltOf (cfH o) y x))) = l.toArray := by
    rw [← el]
  rw [eL]
  have hmap : hcs (l.map (fun x => x.val)) = l.map encN := by simp [hcs, encN]
  refine ⟨by rw [hmap]; simp [hl], .inr ⟨g, cap, _, rfl, hb, heapE _ hgb, h1, h2, by simp [putCells, h3], ?_⟩⟩
  rw [hmap, Nat.mul_one]
  have q := takeE cur l (by omega)
  rw [hl] at q
  exact q
end Go.Proofs.YtbifmcadllilhaaGreat.Pn
namespace Go.Proofs.YtbifmcadllilhaaGreat.Pn
open Go.RowKit
set_option linter.unusedVariables false
/-- the first n targets -/
def tgs (o : List Int) (n : Nat) : List Int := (List.range n).map (tgt o)
theorem tgs_len (o : List Int) (n : Nat) : (tgs o n).length = n := by simp [tgs]
theorem tgs_succ (o : List Int) (n : Nat) : tgs o (n + 1) = tgs o n ++ [tgt o n] := by simp [tgs, List.range_succ]
theorem getD_of {o : List Int} {k : Nat} {p : Int} (h : o[k]? = some p) : o.getD k 0 = p := by rw [List.getD_eq_getElem?_getD, h]; rfl
/-- what the document's Targets answers -/
def RtR (o : List Int) (w : World) (e : Ending) (w' : World) : Prop :=
  (¬ MBL o ∧ e = .returned (.tuple #[.slice none 0 0, .int .i64 150]) ∧ Kp Nu w w') ∨
  (MBL o ∧ ∃ a c, e = .returned (.tuple #[.slice a o.length c, .int .i64 0]) ∧ w'.ownsRow w.heap.size 3 1 (.slice a o.length c) o.length (ics (tgs o o.length)) ∧ Kp Nu w w')
end Go.Proofs.YtbifmcadllilhaaGreat.Pn
namespace Go.Proofs.YtbifmcadllilhaaGreat.Pn
open Go.RowKit
set_option linter.unusedVariables false
/-- a row of numbers of which some are told -/
structure Hq (w : World) (g N : Nat) (D : Nat → Prop) (f : Nat → Int) : Prop where
  mem : ∃ cur : Array Value, w.heap[g]? = some (.cells cur 3 (0, 0)) ∧ cur.size = N ∧ ∀ q, D q → cur[q]? = some (.int .i64 (f q))
theorem Hq.nu {w w' : World} {g N : Nat} {D : Nat → Prop} {f : Nat → Int} (h : Hq w g N D f) (k : Kp Nu w w') : Hq w' g N D f := by
  obtain ⟨cur, h1, h2, h3⟩ := h.mem
  exact ⟨cur, box_k h1 k, h2, h3⟩
theorem Hq.at_ {w : World} {g N q : Nat} {D : Nat → Prop} {f : Nat → Int} (h : Hq w g N D f) (hq : D q) : w.cell? ⟨g, q, none⟩ = some (.int .i64 (f q)) := by
  obtain ⟨cur, h1, h2, h3⟩ := h.mem
  exact cellAt h1 _ (h3 q hq)
theorem Hq.room {w : World} {g N q : Nat} {D : Nat → Prop} {f : Nat → Int} (h : Hq w g N D f) (hq : q < N) : ∃ v, w.cell? ⟨g, q, none⟩ = some v := by
  obtain ⟨cur, h1, h2, h3⟩ := h.mem
  exact ⟨_, cellAt h1 _ (Array.getElem?_eq_getElem (by omega))⟩
theorem Hq.free {w : World} {g N : Nat} {D : Nat → Prop} {f : Nat → Int} (h : Hq w g N D f) (o : Nat) : w.frozen? ⟨g, o, none⟩ = false := by
  obtain ⟨cur, h1, _⟩ := h.mem
  exact free3 h1 o
theorem Hq.lt {w : World} {g N : Nat} {D : Nat → Prop} {f : Nat → Int} (h : Hq w g N D f) : g < w.heap.size := by
  obtain ⟨cur, h1, _⟩ := h.mem
  exact blk_lt h1
theorem Hq.set {w : World} {g N i : Nat} {D D' : Nat → Prop} {f f' : Nat → Int} (h : Hq w g N D f) (hi : i < N) (hD : ∀ q, D' q → q = i ∨ D q) (hf : ∀ q, q ≠ i → D' q → f' q = f q) : Hq (w.setCell ⟨g, i, none⟩ (.int .i64 (f' i))) g N D' f' := by
  obtain ⟨cur, p1, p2, p3⟩ := h.mem
  refine ⟨_, set3 p1 _ _, by simp [p2], fun q hq => ?_⟩
  by_cases e : q = i
  · subst e
    rw [Array.getElem?_setIfInBounds_self_of_lt (by omega)]
  · rw [Array.getElem?_setIfInBounds_ne (fun e' => e e'.symm), p3 q ((hD q hq).resolve_left e), hf q e hq]
theorem Hq.own {w : World} {g N B : Nat} {D : Nat → Prop} {f : Nat → Int} (h : Hq w g N D f) (hD : ∀ q, q < N → D q) (hB : B ≤ g) (hM : N ≤ 16) (xs : List Value) (hx : xs = (List.range N).map (fun q => Value.int .i64 (f q))) : w.ownsRow B 3 1 (.slice (some ⟨g, 0, none⟩) N N) N xs := by
  subst hx
  obtain ⟨cur, p1, p2, p3⟩ := h.mem
  refine ⟨by simp, .inr ⟨g, N, cur, rfl, hB, p1, Nat.le_refl _, by unfold maxLen; omega, by omega, ?_⟩⟩
  apply List.ext_getElem?
  intro j
  by_cases hj : j < N
  · rw [List.getElem?_take_of_lt (by omega), Array.getElem?_toList, p3 j (hD j hj)]
    simp [hj]
  · rw [List.getElem?_take_eq_none (by omega), List.getElem?_eq_none (by simp; omega)]
theorem hq_made {w1 : World} {base g N : Nat} {xs : List Value} (f : Nat → Int) (h : w1.ownsRow base 3 1 (.slice (some ⟨g, 0, none⟩) N N) N xs) : Hq w1 g N (fun _ => False) f := by
  rcases h.2 with ⟨e, _⟩ | ⟨g', cap, cur, e, hb', hg, h1, h2, h3, h4⟩
  · cases e
  · cases e
    exact ⟨cur, hg, by omega, fun q hq => hq.elim⟩
set_option maxRecDepth 100000 in
set_option maxHeartbeats 2000000 in
theorem byLoad55 (w : World) (b : Addr) (cp : Nat) (o : List Int) (N : Nat) (hO : Ns w (.slice (some b) N cp) o) (hN : o.length = N) (hN1 : 1 ≤ N) (hN16 : N ≤ 16) (hb : b.block < w.heap.size) :
    Calls Tryz.prog 64 #[.slice (some b) N cp] w fun e w' => ∃ g s, e = .returned (.slice (some ⟨g, 0, none⟩) N N) ∧ Srt o s ∧ w'.ownsRow w.heap.size 3 1 (.slice (some ⟨g, 0, none⟩) N N) N (hcs s) ∧ Kp Nu w w' := by
  have HO := hide (And.intro hO (And.intro hN hb))
  have hNI : (N : Int) ≤ 16 := by omega
  have hbA := heap_new w (.cells #[.slice (some b) N cp] 45)
  have HB := hide hbA
  clear hO hN hb hbA
  obtain ⟨z0, hzi, hz0, hz1, hz2⟩ := info_parts info3z
  go_enter Tryz.func64, Tryz.ntmps64
  go_wp2_with (at_make; refine wpList_make_full _ rfl _ _ 45 rfl (w.heap.size + 1) 3 z0 _ 1 Tryz.underlying45 hzi hz0 hz1 _ _ _ _ N rfl rfl rfl rfl (by rw [hz2]; omega) (by unfold maxLen; omega) (by rw [World.size_alloc]; exact Nat.le_refl _) ?_; intro w4 hrow4 hgr4)
  have hq4 := hq_made (fun q => (q : Int)) hrow4
  rw [World.size_alloc] at hq4
  have k4 : Kp Nu (w.alloc (.cells #[.slice (some b) N cp] 45)) w4 := (Kp.of_grown hgr4).mono (fun _ _ e => by cases e)
  have H4 := hide (And.intro hq4 (And.intro k4 ((Kp.alloc w _ Nu).andNu k4)))
  clear hrow4 hgr4 hq4 k4
  go_wp2
  go_loopw [10] (fun iv wr => ∃ i : Nat, iv = .int .i64 (i : Int) ∧ i ≤ N ∧ Hid (Hq wr (w.heap.size + 1) N (fun q => q < i) (fun q => (q : Int)) ∧ Kp Nu w wr ∧ wr.heap[w.heap.size]? = some (.cells #[.slice (some b) N cp] 45 (0, 0)))) (fun iv _ => N - (intOf iv).toNat)
  case atStart => exact ⟨0, rfl, Nat.zero_le _, hide ⟨⟨by obtain ⟨cur, p1, p2, p3⟩ := H4.out.1.mem; exact ⟨cur, p1, p2, fun q hq => by omega⟩⟩, H4.out.2.2, box_k HB.out H4.out.2.1⟩⟩
  case round =>
    obtain ⟨i, rfl, hi, hI⟩ := hrel
    have hi0 : (0 : Int) ≤ (i : Int) := by omega
    by_cases hlt : i < N
    · have hltI : (i : Int) < (N : Int) := by omega
      obtain ⟨v, hv⟩ := hI.out.1.room hlt
      have hf := hI.out.1.free i
      have eti : (i : Int).toNat = i := by omega
      go_wp2
      refine ⟨⟨i + 1, by go_num, by omega, hide ⟨hI.out.1.set (f' := fun q => (q : Int)) hlt (fun q hq => by omega) (fun q _ _ => rfl), hI.out.2.1.andSet _ _ (.inl (Nat.le_succ _)), ?_⟩⟩, by simp [intOf]; omega⟩
      exact ((Kp.setCell wr ⟨w.heap.size + 1, i, none⟩ _).block _ (blk_lt hI.out.2.2) (fun e => by have e : w.heap.size = w.heap.size + 1 := e; omega)).trans hI.out.2.2
    · have hge : ¬ (i : Int) < (N : Int) := by omega
      obtain rfl : N = i := by omega
      have hown := hI.out.1.own (B := w.heap.size) (fun q hq => hq) (Nat.le_succ _) hN16 (hcs (List.range N)) rfl
      have SO := sort78 wr o N w.heap.size (w.heap.size + 1) N w.heap.size cp b HO.out.2.1 hN1 hN16 hown (cellAt hI.out.2.2 0 rfl) (fun j x hj => by
        obtain ⟨b', e', hc⟩ := (HO.out.1.nu hI.out.2.1).at_ hj
        cases e'
        exact hc) (by omega) (by have := HO.out.2.2; omega)
      have bb := cellAt hI.out.2.2 0 (v := .slice (some b) N cp) rfl
      clear hown
      go_wp2_with fail
      refine SO.mono ?_; rintro e w5 ⟨rfl, ⟨s, hs, hrow⟩, hgr⟩
      have HS := hide (And.intro hs (And.intro hrow (hI.out.2.1.trans (Kp.of_grown hgr) (fun x hx e => by simp at e; omega))))
      clear SO hs hrow hgr
      go_wp2
      go_ret
      exact ⟨_, s, rfl, HS.out.1, HS.out.2.1, HS.out.2.2⟩
end Go.Proofs.YtbifmcadllilhaaGreat.Pn
