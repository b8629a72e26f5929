import Derived.Shelf.SlSortCmp.NoneTotal
import Derived.Test.YtbifmcadllilhaaGreatProg
import Derived.Test.YtbifmcadllilhaaGreatPtS0
import Derived.StillTailTactics
/-
  DERIVED: THE SHELF's CONTRACTS AT THIS DUMP, IN PLAIN WORDS (tools/lay-plain.mjs out of 'YtbifmcadllilhaaSfL.lean', which tools/lay-shelf.mjs wrote): THE SAME DECLARATIONS UNDER THE SAME NAMES: 'import', 'namespace', 'open', 'def', 'theorem' AND NOTHING ELSE: no command of the shelf's: FOR A HAND-IN. Each laying: the table of numbers ('.._ren') and one theorem, a field a fact of the dump's own or the kernel's comparison; each contract: ONE APPLICATION.
-/
namespace Go.Proofs
open Go.Shelf
def Tryz.sortI_ren : Go.Shelf.Ren := ⟨fun | 6 => 83 | 15 => 91 | 14 => 96 | 28 => 107 | 29 => 108 | 20 => 109 | 21 => 110 | 22 => 111 | 23 => 112 | 24 => 113 | 25 => 114 | 26 => 115 | 27 => 116 | 46 => 123 | 47 => 118 | 48 => 119 | 49 => 124 | 50 => 125 | 57 => 127 | n => n, fun | 22 => 45 | 24 => 3 | 25 => 147 | 3 => 3 | 39 => 123 | 0 => 0 | 53 => 168 | 55 => 24 | 4 => 4 | 46 => 160 | 45 => 159 | 50 => 165 | 5 => 5 | 9 => 9 | 66 => 174 | 70 => 178 | 76 => 183 | 77 => 65 | n => n, fun | n => n⟩
theorem Tryz.sortI : Go.Proofs.SlLaysF.n6 Tryz.prog Tryz.sortI_ren := {
  mixed := by kernel_rfl
  f6 := ⟨Tryz.f83.name, by decide, Tryz.func83.trans (congrArg some (by kernel_rfl))⟩
  f14 := ⟨Tryz.f96.name, by decide, Tryz.func96.trans (congrArg some (by kernel_rfl))⟩
  f15 := Tryz.func91.trans (congrArg some (by kernel_rfl))
  f20 := ⟨Tryz.f109.name, by decide, Tryz.func109.trans (congrArg some (by kernel_rfl))⟩
  f21 := ⟨Tryz.f110.name, by decide, Tryz.func110.trans (congrArg some (by kernel_rfl))⟩
  f22 := ⟨Tryz.f111.name, by decide, Tryz.func111.trans (congrArg some (by kernel_rfl))⟩
  f23 := ⟨Tryz.f112.name, by decide, Tryz.func112.trans (congrArg some (by kernel_rfl))⟩
  f24 := ⟨Tryz.f113.name, by decide, Tryz.func113.trans (congrArg some (by kernel_rfl))⟩
  f25 := ⟨Tryz.f114.name, by decide, Tryz.func114.trans (congrArg some (by kernel_rfl))⟩
  f26 := ⟨Tryz.f115.name, by decide, Tryz.func115.trans (congrArg some (by kernel_rfl))⟩
  f27 := ⟨Tryz.f116.name, by decide, Tryz.func116.trans (congrArg some (by kernel_rfl))⟩
  f28 := Tryz.func107.trans (congrArg some (by kernel_rfl))
  f29 := Tryz.func108.trans (congrArg some (by kernel_rfl))
  f46 := ⟨Tryz.f123.name, by decide, Tryz.func123.trans (congrArg some (by kernel_rfl))⟩
  f47 := Tryz.func118.trans (congrArg some (by kernel_rfl))
  f48 := Tryz.func119.trans (congrArg some (by kernel_rfl))
  f49 := ⟨Tryz.f124.name, by decide, Tryz.func124.trans (congrArg some (by kernel_rfl))⟩
  f50 := ⟨Tryz.f125.name, by decide, Tryz.func125.trans (congrArg some (by kernel_rfl))⟩
  f57 := ⟨Tryz.f127.name, by decide, Tryz.func127.trans (congrArg some (by kernel_rfl))⟩
  t0 := Tryz.underlying0
  a0 := Tryz.isAgg0
  z0 := Tryz.sizeOf0
  v0 := Tryz.zeroValue0
  t3 := Tryz.underlying3
  a3 := Tryz.isAgg3
  z3 := Tryz.sizeOf3
  v3 := Tryz.zeroValue3
  t4 := Tryz.underlying4
  a4 := Tryz.isAgg4
  z4 := Tryz.sizeOf4
  v4 := Tryz.zeroValue4
  t5 := Tryz.underlying5
  a5 := Tryz.isAgg5
  z5 := Tryz.sizeOf5
  v5 := Tryz.zeroValue5
  t9 := Tryz.underlying9
  a9 := Tryz.isAgg9
  z9 := Tryz.sizeOf9
  v9 := Tryz.zeroValue9
  t22 := Tryz.underlying45
  a22 := Tryz.isAgg45
  z22 := Tryz.sizeOf45
  v22 := Tryz.zeroValue45
  a24 := Tryz.isAgg3
  z24 := Tryz.sizeOf3
  t25 := Tryz.underlying147
  a25 := Tryz.isAgg147
  z25 := Tryz.sizeOf147
  v25 := Tryz.zeroValue147
  t39 := Tryz.underlying123
  a39 := Tryz.isAgg123
  z39 := Tryz.sizeOf123
  v39 := Tryz.zeroValue123
  t45 := Tryz.underlying159
  a45 := Tryz.isAgg159
  z45 := Tryz.sizeOf159
  v45 := Tryz.zeroValue159
  t46 := Tryz.underlying160
  a46 := Tryz.isAgg160
  z46 := Tryz.sizeOf160
  v46 := Tryz.zeroValue160
  t50 := Tryz.underlying165
  a50 := Tryz.isAgg165
  z50 := Tryz.sizeOf165
  v50 := Tryz.zeroValue165
  t53 := Tryz.underlying168
  a53 := Tryz.isAgg168
  z53 := Tryz.sizeOf168
  v53 := Tryz.zeroValue168
  t55 := Tryz.underlying24
  a55 := Tryz.isAgg24
  z55 := Tryz.sizeOf24
  v55 := Tryz.zeroValue24
  t66 := Tryz.underlying174
  a66 := Tryz.isAgg174
  z66 := Tryz.sizeOf174
  v66 := Tryz.zeroValue174
  t70 := Tryz.underlying178
  a70 := Tryz.isAgg178
  z70 := Tryz.sizeOf178
  v70 := Tryz.zeroValue178
  t76 := Tryz.underlying183
  a76 := Tryz.isAgg183
  z76 := Tryz.sizeOf183
  v76 := Tryz.zeroValue183
  t77 := Tryz.underlying65
  a77 := Tryz.isAgg65
  z77 := Tryz.sizeOf65
  v77 := Tryz.zeroValue65 }
end Go.Proofs
namespace Go.Proofs.YtbifmcadllilhaaGreat.Pn
open Go.RowKit Go.Shelf Go.Sort
set_option linter.unusedVariables false
def encN {N : Nat} (x : Ho N) : Value := .int .i64 (x.val : Int)
theorem ltC (o : List Int) {N : Nat} (x y : Ho N) : ltOf (cfH o) x y = ahd o x.val y.val := cfH_lt o x y
theorem swoC (o : List Int) {N : Nat} : SWO (ltOf (cfH o (N := N))) where
  irrefl p := by rw [ltC]; exact ahd_self o _
  trans p q r h1 h2 := by
    rw [ltC] at *
    simp only [ahd, decide_eq_true_eq] at *
    omega
  ntrans p q r h1 h2 := by
    rw [ltC] at *
    simp only [ahd, decide_eq_false_iff_not] at *
    omega
theorem totC (o : List Int) {N : Nat} (p q : Ho N) (h1 : ltOf (cfH o) p q = false) (h2 : ltOf (cfH o) q p = false) : p = q := by
  rw [ltC] at *
  simp only [ahd, decide_eq_false_iff_not] at *
  cases p
  cases q
  simp only [Ho.mk.injEq]
  simp only at h1 h2
  omega
theorem grownE {w : World} {N g n : Nat} [Inhabited (Ho N)] {os : Array Obj} (d : Array (Ho N)) : w.grownBy (sortWorld encN w g 0 n d os) (some g) := by
  refine ⟨rfl, rfl, rfl, by simp [sortWorld], fun k hk hne => ?_⟩
  unfold sortWorld
  rw [heap_grow_old _ _ (by simpa using hk)]
  have : g ≠ k := fun e => hne (by rw [e])
  simp [putRow, mapBlock, Sort.ahead, Array.getElem?_modify, this]
theorem heapE {w : World} {N g n : Nat} [Inhabited (Ho N)] {os : Array Obj} {cur : Array Value} {e : TypeId} {fr : Nat × Nat} (d : Array (Ho N)) (hb : w.heap[g]? = some (.cells cur e fr)) :
    (sortWorld encN w g 0 n d os).heap[g]? = some (.cells (putCells encN 0 d cur) e fr) := by
  have hg : g < w.heap.size := (Array.getElem?_eq_some_iff.1 hb).1
  unfold sortWorld
  rw [heap_grow_old _ _ (by simpa using hg)]
  simp [putRow, mapBlock, Sort.ahead, Array.getElem?_modify, hb, onCells]
theorem takeE {N : Nat} [Inhabited (Ho N)] (cur : Array Value) (l : List (Ho N)) (h : l.length ≤ cur.size) : (putCells encN 0 l.toArray cur).toList.take l.length = l.map encN := by
  apply List.ext_getElem?
  intro j
  by_cases hj : j < l.length
  · rw [List.getElem?_take_of_lt hj, Array.getElem?_toList]
    simp [putCells, hj, show j < cur.size by omega]
  · rw [List.getElem?_take_eq_none (by omega), List.getElem?_eq_none (by simp; omega)]
/-- the hosts, as cells -/
def hcs (s : List Nat) : List Value := s.map (fun (x : Nat) => Value.int .i64 (x : Int))
set_option maxHeartbeats 1000000 in
theorem sort78 (w : World) (o : List Int) (N B g cap bx cp : Nat) (b : Addr) (hN : o.length = N) (hN1 : 1 ≤ N) (hN16 : N ≤ 16)
    (hrow : w.ownsRow B 3 1 (.slice (some ⟨g, 0, none⟩) N cap) N (hcs (List.range N)))
    (hbx : w.cell? ⟨bx, 0, none⟩ = some (.slice (some b) N cp)) (ho : ∀ (j : Nat) x, o[j]? = some x → w.cell? (b.add j) = some (.int .i64 x)) (hg1 : bx ≠ g) (hg2 : b.block ≠ g) :
    Calls Tryz.prog 83 #[.slice (some ⟨g, 0, none⟩) N cap, .func (.func 84) #[] #[.pointer (some ⟨bx, 0, none⟩)]] w fun e w' => e = .returned (.tuple #[]) ∧ (∃ s, Srt o s ∧ w'.ownsRow B 3 1 (.slice (some ⟨g, 0, none⟩) N cap) N (hcs s)) ∧ w.grownBy w' (some g) := by
  haveI : Inhabited (Ho N) := ⟨⟨0, hN1⟩⟩
  have eg : ∀ args w, (callFunc 84 args).run Tryz.prog w = .ok (.enter 84 args) w := enters_of Tryz.func84 (by kernel_rfl) rfl
  rcases hrow.2 with ⟨e, _⟩ | ⟨g', cap', cur, e, hb, hgb, h1, h2, h3, h4⟩
  · cases e
  simp only [Value.slice.injEq, Option.some.injEq, Addr.mk.injEq, and_true, true_and] at e
  obtain ⟨rfl, rfl⟩ := e
  have hsz : (rng N).toArray.size = N := by simp [rng_len]
  have hcur : N ≤ cur.size := by omega
  have hH : Holds encN w g 0 (rng N).toArray := by
    intro j hj
    rw [hsz] at hj
    refine ⟨?_, free3 hgb _⟩
    have hj2 : j < (rng N).length := by rw [rng_len]; exact hj
    have e1 : (rng N).toArray[j]! = (rng N)[j] := by rw [getElem!_pos _ j (by rw [hsz]; exact hj)]; simp
    rw [e1, Nat.zero_add]
    refine cellAt hgb j ?_
    have h5 : (hcs (List.range N))[j]? = some (.int .i64 (j : Int)) := by simp [hcs, hj]
    rw [← h4, List.getElem?_take_of_lt (by omega)] at h5
    unfold encN
    rw [rng_at N j hj2]
    simpa using h5
  have hcmp : CmpLays1 Tryz.prog 84 #[.pointer (some ⟨bx, 0, none⟩)] encN (cfH o (N := N)) g 0 (rng N).toArray.size w := fun m os dk hs x y => by
    have hgr : w.grownBy (sortWorld encN w g 0 m dk os) (some g) := grownE dk
    have keep : ∀ a v, w.cell? a = some v → a.block ≠ g → (sortWorld encN w g 0 m dk os).cell? a = some v := fun a v hc hne =>
      (World.cell?_of_block (hgr.block _ (World.block_lt_of_cell? w _ hc) (fun e => hne (by simpa using e)))).trans hc
    have hx : o[x.val]? = some (o.getD x.val 0) := by
      have hl : x.val < o.length := by rw [hN]; exact x.lt
      rw [List.getD_eq_getElem?_getD, List.getElem?_eq_getElem hl]
      rfl
    have hy : o[y.val]? = some (o.getD y.val 0) := by
      have hl : y.val < o.length := by rw [hN]; exact y.lt
      rw [List.getD_eq_getElem?_getD, List.getElem?_eq_getElem hl]
      rfl
    refine (less79 x.val y.val (o.getD x.val 0) (o.getD y.val 0) bx b N cp _ x.lt y.lt (keep _ _ hbx hg1) (keep _ _ (ho _ _ hx) (by rw [add_block]; exact hg2)) (keep _ _ (ho _ _ hy) (by rw [add_block]; exact hg2))).mono ?_
    rintro e w' ⟨rfl, rfl⟩
    exact ⟨rfl, (((Gw.refl _).andAlloc _).drew).out⟩
  have hcon := Any.slices_SortFunc_total Tryz.sortI encN (fun _ => rfl) (cfH o (N := N)) (swoC o) 84 #[.pointer (some ⟨bx, 0, none⟩)] g 0 cap (rng N).toArray w eg hcmp hH (Array.getElem?_eq_some_iff.1 hgb).1 (by rw [hsz]; omega) (totC o)
  rw [hsz] at hcon
  change Calls Tryz.prog 83 #[.slice (some ⟨g, 0, none⟩) N cap, .func (.func 84) #[] #[.pointer (some ⟨bx, 0, none⟩)]] w _ at hcon
  refine hcon.mono ?_
  rintro e w' ⟨rfl, n, os, rfl⟩
  obtain ⟨l, el⟩ : ∃ l, (rng N).mergeSort (fun x y => !ltOf (cfH o) y x) = l := ⟨_, rfl⟩
  have hp : l.Perm (rng N) := by rw [← el]; exact List.mergeSort_perm _ _
  have hs : l.Pairwise (fun a b => (!decide (cfH o b a < 0)) = true) := by
    rw [← el]
    refine List.pairwise_mergeSort (le := fun x y => !ltOf (cfH o) y x) (fun a b c h1 h2 => ?_) (fun a b => ?_) _
    · simp only [Bool.not_eq_true', ltC] at *
      simp only [ahd, decide_eq_false_iff_not] at *
      omega
    · simp only [Bool.or_eq_true, Bool.not_eq_true', ltC]
      simp only [ahd, decide_eq_false_iff_not]
      omega
  have hl : l.length = N := by rw [hp.length_eq, rng_len]
  refine ⟨rfl, ⟨l.map (fun x => x.val), srt_of hN l hp hs, ?_⟩, grownE _⟩
  have eL : (List.toArray ((rng N).toArray.toList.mergeSort (fun x y => !ltOf (cfH o) y x))) = l.toArray := by
    rw [← el]
  rw [eL]
  have hmap : hcs (l.map (fun x => x.val)) = l.map encN := by simp [hcs, encN]
  refine ⟨by rw [hmap]; simp [hl], .inr ⟨g, cap, _, rfl, hb, heapE _ hgb, h1, h2, by simp [putCells, h3], ?_⟩⟩
  rw [hmap, Nat.mul_one]
  have q := takeE cur l (by omega)
  rw [hl] at q
  exact q
end Go.Proofs.YtbifmcadllilhaaGreat.Pn
namespace Go.Proofs.YtbifmcadllilhaaGreat.Pn
open Go.RowKit
set_option linter.unusedVariables false
/-- the first n targets -/
def tgs (o : List Int) (n : Nat) : List Int := (List.range n).map (tgt o)
theorem tgs_len (o : List Int) (n : Nat) : (tgs o n).length = n := by simp [tgs]
theorem tgs_succ (o : List Int) (n : Nat) : tgs o (n + 1) = tgs o n ++ [tgt o n] := by simp [tgs, List.range_succ]
theorem getD_of {o : List Int} {k : Nat} {p : Int} (h : o[k]? = some p) : o.getD k 0 = p := by rw [List.getD_eq_getElem?_getD, h]; rfl
/-- what the document's Targets answers -/
def RtR (o : List Int) (w : World) (e : Ending) (w' : World) : Prop :=
  (¬ MBL o ∧ e = .returned (.tuple #[.slice none 0 0, .int .i64 150]) ∧ Kp Nu w w') ∨
  (MBL o ∧ ∃ a c, e = .returned (.tuple #[.slice a o.length c, .int .i64 0]) ∧ w'.ownsRow w.heap.size 3 1 (.slice a o.length c) o.length (ics (tgs o o.length)) ∧ Kp Nu w w')
end Go.Proofs.YtbifmcadllilhaaGreat.Pn
namespace Go.Proofs.YtbifmcadllilhaaGreat.Pn
open Go.RowKit
set_option linter.unusedVariables false
/-- a row of numbers of which some are told -/
structure Hq (w : World) (g N : Nat) (D : Nat → Prop) (f : Nat → Int) : Prop where
  mem : ∃ cur : Array Value, w.heap[g]? = some (.cells cur 3 (0, 0)) ∧ cur.size = N ∧ ∀ q, D q → cur[q]? = some (.int .i64 (f q))
theorem Hq.nu {w w' : World} {g N : Nat} {D : Nat → Prop} {f : Nat → Int} (h : Hq w g N D f) (k : Kp Nu w w') : Hq w' g N D f := by
  obtain ⟨cur, h1, h2, h3⟩ := h.mem
  exact ⟨cur, box_k h1 k, h2, h3⟩
theorem Hq.at_ {w : World} {g N q : Nat} {D : Nat → Prop} {f : Nat → Int} (h : Hq w g N D f) (hq : D q) : w.cell? ⟨g, q, none⟩ = some (.int .i64 (f q)) := by
  obtain ⟨cur, h1, h2, h3⟩ := h.mem
  exact cellAt h1 _ (h3 q hq)
theorem Hq.room {w : World} {g N q : Nat} {D : Nat → Prop} {f : Nat → Int} (h : Hq w g N D f) (hq : q < N) : ∃ v, w.cell? ⟨g, q, none⟩ = some v := by
  obtain ⟨cur, h1, h2, h3⟩ := h.mem
  exact ⟨_, cellAt h1 _ (Array.getElem?_eq_getElem (by omega))⟩
theorem Hq.free {w : World} {g N : Nat} {D : Nat → Prop} {f : Nat → Int} (h : Hq w g N D f) (o : Nat) : w.frozen? ⟨g, o, none⟩ = false := by
  obtain ⟨cur, h1, _⟩ := h.mem
  exact free3 h1 o
theorem Hq.lt {w : World} {g N : Nat} {D : Nat → Prop} {f : Nat → Int} (h : Hq w g N D f) : g < w.heap.size := by
  obtain ⟨cur, h1, _⟩ := h.mem
  exact blk_lt h1
theorem Hq.set {w : World} {g N i : Nat} {D D' : Nat → Prop} {f f' : Nat → Int} (h : Hq w g N D f) (hi : i < N) (hD : ∀ q, D' q → q = i ∨ D q) (hf : ∀ q, q ≠ i → D' q → f' q = f q) : Hq (w.setCell ⟨g, i, none⟩ (.int .i64 (f' i))) g N D' f' := by
  obtain ⟨cur, p1, p2, p3⟩ := h.mem
  refine ⟨_, set3 p1 _ _, by simp [p2], fun q hq => ?_⟩
  by_cases e : q = i
  · subst e
    rw [Array.getElem?_setIfInBounds_self_of_lt (by omega)]
  · rw [Array.getElem?_setIfInBounds_ne (fun e' => e e'.symm), p3 q ((hD q hq).resolve_left e), hf q e hq]
theorem Hq.own {w : World} {g N B : Nat} {D : Nat → Prop} {f : Nat → Int} (h : Hq w g N D f) (hD : ∀ q, q < N → D q) (hB : B ≤ g) (hM : N ≤ 16) (xs : List Value) (hx : xs = (List.range N).map (fun q => Value.int .i64 (f q))) : w.ownsRow B 3 1 (.slice (some ⟨g, 0, none⟩) N N) N xs := by
  subst hx
  obtain ⟨cur, p1, p2, p3⟩ := h.mem
  refine ⟨by simp, .inr ⟨g, N, cur, rfl, hB, p1, Nat.le_refl _, by unfold maxLen; omega, by omega, ?_⟩⟩
  apply List.ext_getElem?
  intro j
  by_cases hj : j < N
  · rw [List.getElem?_take_of_lt (by omega), Array.getElem?_toList, p3 j (hD j hj)]
    simp [hj]
  · rw [List.getElem?_take_eq_none (by omega), List.getElem?_eq_none (by simp; omega)]
theorem hq_made {w1 : World} {base g N : Nat} {xs : List Value} (f : Nat → Int) (h : w1.ownsRow base 3 1 (.slice (some ⟨g, 0, none⟩) N N) N xs) : Hq w1 g N (fun _ => False) f := by
  rcases h.2 with ⟨e, _⟩ | ⟨g', cap, cur, e, hb', hg, h1, h2, h3, h4⟩
  · cases e
  · cases e
    exact ⟨cur, hg, by omega, fun q hq => hq.elim⟩
set_option maxRecDepth 100000 in
set_option maxHeartbeats 2000000 in
theorem byLoad55 (w : World) (b : Addr) (cp : Nat) (o : List Int) (N : Nat) (hO : Ns w (.slice (some b) N cp) o) (hN : o.length = N) (hN1 : 1 ≤ N) (hN16 : N ≤ 16) (hb : b.block < w.heap.size) :
    Calls Tryz.prog 64 #[.slice (some b) N cp] w fun e w' => ∃ g s, e = .returned (.slice (some ⟨g, 0, none⟩) N N) ∧ Srt o s ∧ w'.ownsRow w.heap.size 3 1 (.slice (some ⟨g, 0, none⟩) N N) N (hcs s) ∧ Kp Nu w w' := by
  have HO := hide (And.intro hO (And.intro hN hb))
  have hNI : (N : Int) ≤ 16 := by omega
  have hbA := heap_new w (.cells #[.slice (some b) N cp] 45)
  have HB := hide hbA
  clear hO hN hb hbA
  obtain ⟨z0, hzi, hz0, hz1, hz2⟩ := info_parts info3z
  go_enter Tryz.func64, Tryz.ntmps64
  go_wp2_with (at_make; refine wpList_make_full _ rfl _ _ 45 rfl (w.heap.size + 1) 3 z0 _ 1 Tryz.underlying45 hzi hz0 hz1 _ _ _ _ N rfl rfl rfl rfl (by rw [hz2]; omega) (by unfold maxLen; omega) (by rw [World.size_alloc]; exact Nat.le_refl _) ?_; intro w4 hrow4 hgr4)
  have hq4 := hq_made (fun q => (q : Int)) hrow4
  rw [World.size_alloc] at hq4
  have k4 : Kp Nu (w.alloc (.cells #[.slice (some b) N cp] 45)) w4 := (Kp.of_grown hgr4).mono (fun _ _ e => by cases e)
  have H4 := hide (And.intro hq4 (And.intro k4 ((Kp.alloc w _ Nu).andNu k4)))
  clear hrow4 hgr4 hq4 k4
  go_wp2
  go_loopw [10] (fun iv wr => ∃ i : Nat, iv = .int .i64 (i : Int) ∧ i ≤ N ∧ Hid (Hq wr (w.heap.size + 1) N (fun q => q < i) (fun q => (q : Int)) ∧ Kp Nu w wr ∧ wr.heap[w.heap.size]? = some (.cells #[.slice (some b) N cp] 45 (0, 0)))) (fun iv _ => N - (intOf iv).toNat)
  case atStart => exact ⟨0, rfl, Nat.zero_le _, hide ⟨⟨by obtain ⟨cur, p1, p2, p3⟩ := H4.out.1.mem; exact ⟨cur, p1, p2, fun q hq => by omega⟩⟩, H4.out.2.2, box_k HB.out H4.out.2.1⟩⟩
  case round =>
    obtain ⟨i, rfl, hi, hI⟩ := hrel
    have hi0 : (0 : Int) ≤ (i : Int) := by omega
    by_cases hlt : i < N
    · have hltI : (i : Int) < (N : Int) := by omega
      obtain ⟨v, hv⟩ := hI.out.1.room hlt
      have hf := hI.out.1.free i
      have eti : (i : Int).toNat = i := by omega
      go_wp2
      refine ⟨⟨i + 1, by go_num, by omega, hide ⟨hI.out.1.set (f' := fun q => (q : Int)) hlt (fun q hq => by omega) (fun q _ _ => rfl), hI.out.2.1.andSet _ _ (.inl (Nat.le_succ _)), ?_⟩⟩, by simp [intOf]; omega⟩
      exact ((Kp.setCell wr ⟨w.heap.size + 1, i, none⟩ _).block _ (blk_lt hI.out.2.2) (fun e => by have e : w.heap.size = w.heap.size + 1 := e; omega)).trans hI.out.2.2
    · have hge : ¬ (i : Int) < (N : Int) := by omega
      obtain rfl : N = i := by omega
      have hown := hI.out.1.own (B := w.heap.size) (fun q hq => hq) (Nat.le_succ _) hN16 (hcs (List.range N)) rfl
      have SO := sort78 wr o N w.heap.size (w.heap.size + 1) N w.heap.size cp b HO.out.2.1 hN1 hN16 hown (cellAt hI.out.2.2 0 rfl) (fun j x hj => by
        obtain ⟨b', e', hc⟩ := (HO.out.1.nu hI.out.2.1).at_ hj
        cases e'
        exact hc) (by omega) (by have := HO.out.2.2; omega)
      have bb := cellAt hI.out.2.2 0 (v := .slice (some b) N cp) rfl
      clear hown
      go_wp2_with fail
      refine SO.mono ?_; rintro e w5 ⟨rfl, ⟨s, hs, hrow⟩, hgr⟩
      have HS := hide (And.intro hs (And.intro hrow (hI.out.2.1.trans (Kp.of_grown hgr) (fun x hx e => by simp at e; omega))))
      clear SO hs hrow hgr
      go_wp2
      go_ret
      exact ⟨_, s, rfl, HS.out.1, HS.out.2.1, HS.out.2.2⟩
end Go.Proofs.YtbifmcadllilhaaGreat.Pn
namespace Go.Proofs.YtbifmcadllilhaaGreat.Pn
open Go.RowKit
set_option linter.unusedVariables false
theorem Hq.put {w : World} {g N : Nat} {D D' : Nat → Prop} {f : Nat → Int} (h : Hq w g N D f) (i : Nat) (v : Value) (hD : ∀ q, D' q → q ≠ i ∧ D q) : Hq (w.setCell ⟨g, i, none⟩ v) g N D' f := by
  obtain ⟨cur, p1, p2, p3⟩ := h.mem
  refine ⟨_, set3 p1 _ _, by simp [p2], fun q hq => ?_⟩
  rw [Array.getElem?_setIfInBounds_ne (fun e' => (hD q hq).1 e'.symm), p3 q (hD q hq).2]
theorem hcs_ics (s : List Nat) : hcs s = ics (s.map (fun (x : Nat) => (x : Int))) := by simp [hcs, ics]
/-- the hosts that have been gone through -/
def Dn (s : List Nat) (p h : Nat) : Prop := ∃ q : Nat, q < p ∧ s[q]? = some h
structure TgI (w wr : World) (o : List Int) (s : List Nat) (N gt g p : Nat) : Prop where
  hq : Hq wr gt N (Dn s p) (tgt o)
  row : wr.ownsRow (gt + 1) 3 1 (.slice (some ⟨g, 0, none⟩) N N) N (hcs s)
  kp : Kp Nu w wr
theorem TgI.one {w wr : World} {o : List Int} {s : List Nat} {N gt g p h : Nat} (hI : TgI w wr o s N gt g p) (hs : s[p]? = some h) (hgt : w.heap.size ≤ gt) (hh : h < N) : TgI w (wr.setCell ⟨gt, h, none⟩ (.int .i64 (tgt o h))) o s N gt g (p + 1) := by
  refine ⟨hI.hq.set (f' := tgt o) hh (fun q hq => ?_) (fun q _ _ => rfl), ?_, hI.kp.andSet _ _ (.inl hgt)⟩
  · obtain ⟨r, hr, e⟩ := hq
    by_cases er : r = p
    · subst er
      rw [hs] at e
      cases e
      exact .inl rfl
    · exact .inr ⟨r, by omega, e⟩
  · refine own_keep hI.row (fun g' hg' => (Kp.setCell wr ⟨gt, h, none⟩ _).block g' (own_lt hI.row hg') (fun e => ?_))
    have := own_ge hI.row hg'
    have e : g' = gt := e
    omega
theorem TgI.two {w wr : World} {o : List Int} {s : List Nat} {N gt g p h : Nat} (hI : TgI w wr o s N gt g p) (hs : s[p]? = some h) (hgt : w.heap.size ≤ gt) (hh : h < N) (hno : ¬ Dn s p h) (v : Value) : TgI w ((wr.setCell ⟨gt, h, none⟩ v).setCell ⟨gt, h, none⟩ (.int .i64 (tgt o h))) o s N gt g (p + 1) := by
  refine TgI.one ⟨hI.hq.put h v (fun q hq => ⟨fun e => hno (e ▸ hq), hq⟩), ?_, hI.kp.andSet _ _ (.inl hgt)⟩ hs hgt hh
  refine own_keep hI.row (fun g' hg' => (Kp.setCell wr ⟨gt, h, none⟩ _).block g' (own_lt hI.row hg') (fun e => ?_))
  have := own_ge hI.row hg'
  have e : g' = gt := e
  omega
set_option maxRecDepth 100000 in
set_option maxHeartbeats 2000000 in
theorem targetsOf31 (w : World) (b : Addr) (cp : Nat) (o : List Int) (N : Nat) (hO : Ns w (.slice (some b) N cp) o) (hN : o.length = N) (hm : MBL o) (hb : b.block < w.heap.size) :
    Calls Tryz.prog 48 #[.slice (some b) N cp] w fun e w' => ∃ g, e = .returned (.slice (some ⟨g, 0, none⟩) N N) ∧ w'.ownsRow w.heap.size 3 1 (.slice (some ⟨g, 0, none⟩) N N) N (ics (tgs o N)) ∧ Kp Nu w w' := by
  have mixed : Tryz.prog.follows .mixedOrders = true := by kernel_rfl
  have T := total28 w.drew _ o (hO.nu (kp_drawn w)) hm
  obtain ⟨S, eS⟩ : ∃ S, o.sum = S := ⟨_, rfl⟩
  have hsb := sum_bound hm.2.2
  rw [eS] at hsb T
  have hl := hm.2.1
  have hl1 := hm.1
  rw [hN] at hsb hl hl1
  have hS0 : 0 ≤ S := hsb.1
  have hS1 : S ≤ 17179869184 := by omega
  have hNI : (N : Int) ≤ 16 := by omega
  have hN1 : (1 : Int) ≤ (N : Int) := by omega
  have hne : (N : Int) ≠ 0 := by omega
  have hne2 : ((N : Int) == 0) = false := by simpa using hne
  have hne3 : ¬ N = 0 := by omega
  obtain ⟨D, eD⟩ : ∃ D, S / (N : Int) = D := ⟨_, rfl⟩
  obtain ⟨R, eR⟩ : ∃ R, S % (N : Int) = R := ⟨_, rfl⟩
  have hD0 : 0 ≤ D := by rw [← eD]; exact Int.ediv_nonneg hS0 (by omega)
  have hD1 : D ≤ S := by rw [← eD]; exact Int.ediv_le_self _ hS0
  have et1 : S.tdiv (N : Int) = D := by rw [Int.tdiv_eq_ediv_of_nonneg hS0, eD]
  have et2 : S.tmod (N : Int) = R := by rw [Int.tmod_eq_emod_of_nonneg hS0, eR]
  have ew1 : wrap64 D = D := by unfold wrap64; omega
  have ew2 : IntKind.i64.wrap D = D := by rw [IntKind.wrap_i64]; omega
  have ew3 : wrap64 (D + 1) = D + 1 := by unfold wrap64; omega
  have ew4 : IntKind.i64.wrap (D + 1) = D + 1 := by rw [IntKind.wrap_i64]; omega
  have HO := hide (And.intro hO (And.intro hN (And.intro hm (And.intro hb (And.intro eS (And.intro hl hl1))))))
  have HV : Hid (∀ h p, nAhd o h o.length = p → tgt o h = D + (if (p : Int) < R then 1 else 0)) := hide (fun h p e => by
    unfold tgt
    rw [e, HO.out.2.2.2.2.1, HO.out.2.1, eD, eR])
  clear hO hN hm hb eS hsb hl1
  obtain ⟨z0, hzi, hz0, hz1, hz2⟩ := info_parts info3z
  go_enter Tryz.func48, Tryz.ntmps48
  go_wp2_with fail
  refine wp_region_still_lit mixed (by kernel_rfl) ?_
  still_step
  still_call T
  still_step
  still_step
  still_step
  still_step
  still_call T
  still_step
  still_step
  still_step
  still_step
  still_step
  refine wpStill_nil ?_
  clear T
  go_wp2_with (at_make; refine wpList_make_full _ rfl _ _ 45 rfl w.heap.size 3 z0 _ 1 Tryz.underlying45 hzi hz0 hz1 _ _ _ _ N rfl rfl rfl rfl (by rw [hz2]; omega) (by unfold maxLen; omega) (Nat.le_refl _) ?_; intro w4 hrow4 hgr4)
  have hq4 := hq_made (tgt o) hrow4
  have k4 : Kp Nu w w4 := (kp_drawn w).andNu ((Kp.of_grown hgr4).mono (fun _ _ e => by cases e))
  have BL := byLoad55 w4 b cp o N (HO.out.1.nu k4) HO.out.2.1 HO.out.2.2.2.2.2.2 HO.out.2.2.2.2.2.1 (Nat.lt_of_lt_of_le HO.out.2.2.2.1 k4.size)
  have H4 := hide (And.intro hq4 k4)
  clear hrow4 hgr4 hq4 k4
  go_wp2_with fail
  refine BL.mono ?_; rintro e w5 ⟨g, s, rfl, hs, hrow5, hk5⟩
  have H0 : Hid (TgI w w5 o s N w.heap.size g 0) := hide ⟨⟨by obtain ⟨cur, p1, p2, p3⟩ := (H4.out.1.nu hk5).mem; exact ⟨cur, p1, p2, fun q ⟨r, hr, _⟩ => by omega⟩⟩, own_base hrow5 (by have := H4.out.1.lt; exact this), H4.out.2.andNu hk5⟩
  have HS := hide hs
  clear BL hs hrow5 hk5 H4
  go_wp2
  go_loopw [24] (fun iv wr => ∃ p : Nat, iv = .int .i64 (p : Int) ∧ p ≤ N ∧ Hid (TgI w wr o s N w.heap.size g p)) (fun iv _ => N - (intOf iv).toNat)
  case atStart => exact ⟨0, rfl, Nat.zero_le _, H0⟩
  case round =>
    clear H0
    obtain ⟨p, rfl, hp, hI⟩ := hrel
    have hp0 : (0 : Int) ≤ (p : Int) := by omega
    by_cases hlt : p < N
    · have hltI : (p : Int) < (N : Int) := by omega
      obtain ⟨h, hh⟩ : ∃ h, s[p]? = some h := ⟨_, List.getElem?_eq_getElem (by rw [HS.out.len, HO.out.2.1]; exact hlt)⟩
      have hhN : h < N := by have := HS.out.lt hh; rw [HO.out.2.1] at this; exact this
      have hns : Ns wr (.slice (some ⟨g, 0, none⟩) (s.map (fun (x : Nat) => (x : Int))).length N) (s.map (fun (x : Nat) => (x : Int))) := by
        have q := hI.out.row
        rw [hcs_ics] at q
        have e : N = (s.map (fun (x : Nat) => (x : Int))).length := by rw [List.length_map, HS.out.len, HO.out.2.1]
        refine Ns.of_own (B := w.heap.size + 1) ?_
        rw [← e]
        exact q
      obtain ⟨b2, e2, c2⟩ := hns.at_ (j := p) (x := (h : Int)) (by simp [hh])
      simp only [Option.some.injEq] at e2
      subst e2
      rw [Addr.add_lit, Nat.zero_add] at c2
      obtain ⟨v, hv⟩ := hI.out.hq.room hhN
      have hf := hI.out.hq.free h
      have hh0 : (0 : Int) ≤ (h : Int) := by omega
      have hhI : (h : Int) < (N : Int) := by omega
      have etp : (p : Int).toNat = p := by omega
      have eth : (h : Int).toNat = h := by omega
      have hpl := HS.out.place hh
      have htv := HV.out h p hpl
      have hno : ¬ Dn s p h := fun ⟨r, hr, e⟩ => by have := HS.out.nodup e hh; omega
      have HH := hide (And.intro hh (And.intro hhN hno))
      clear hns hpl hno
      by_cases hpR : (p : Int) < R
      · have x1 : decide ((p : Int) < R) = true := by simpa using hpR
        have hv2 : D + 1 = tgt o h := by rw [htv, if_pos hpR]
        have HF := hI.out.two hh (Nat.le_refl _) hhN HH.out.2.2 (.int .i64 D)
        rw [← hv2] at HF
        have HF2 := hide HF
        clear hpR htv hv2 HF hh
        go_wp2
        exact ⟨⟨p + 1, by go_num, by omega, HF2⟩, by simp [intOf]; omega⟩
      · have x1 : decide ((p : Int) < R) = false := by simpa using hpR
        have hv2 : D = tgt o h := by rw [htv, if_neg hpR]; omega
        have HF := hI.out.one hh (Nat.le_refl _) hhN
        rw [← hv2] at HF
        have HF2 := hide HF
        clear hpR htv hv2 HF hh
        go_wp2
        exact ⟨⟨p + 1, by go_num, by omega, HF2⟩, by simp [intOf]; omega⟩
    · have hge : ¬ (p : Int) < (N : Int) := by omega
      obtain rfl : N = p := by omega
      have HE : Hid (wr.ownsRow w.heap.size 3 1 (.slice (some ⟨w.heap.size, 0, none⟩) N N) N (ics (tgs o N))) := hide (hI.out.hq.own (fun q hq => by
        obtain ⟨r, hr⟩ := HS.out.has (x := q) (by rw [HO.out.2.1]; exact hq)
        have hr2 := (List.getElem?_eq_some_iff.1 hr).1
        rw [HS.out.len, HO.out.2.1] at hr2
        exact ⟨r, hr2, hr⟩) (Nat.le_refl _) HO.out.2.2.2.2.2.1 _ (by simp [ics, tgs]))
      go_wp2
      go_ret
      exact ⟨_, rfl, HE.out, hI.out.kp⟩
end Go.Proofs.YtbifmcadllilhaaGreat.Pn
