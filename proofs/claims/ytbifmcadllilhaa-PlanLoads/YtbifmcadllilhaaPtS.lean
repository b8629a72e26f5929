import Derived.Test.YtbifmcadllilhaaPtS0
import Derived.Test.YtbifmcadllilhaaSf
namespace Go.Proofs.Ytbifmcadllilhaa.Pn
open Go.RowKit Go.Shelf Go.Sort
set_option linter.unusedVariables false
def encN {N : Nat} (x : Ho N) : Value := .int .i64 (x.val : Int)
theorem ltC (o : List Int) {N : Nat} (x y : Ho N) : ltOf (cfH o) x y = ahd o x.val y.val := cfH_lt o x y
theorem swoC (o : List Int) {N : Nat} : SWO (ltOf (cfH o (N := N))) where
  irrefl p := by rw [ltC]; exact ahd_self o _
  trans p q r h1 h2 := by
    rw [ltC] at *
    simp only [ahd, decide_eq_true_eq] at *
    omega
  ntrans p q r h1 h2 := by
    rw [ltC] at *
    simp only [ahd, decide_eq_false_iff_not] at *
    omega
theorem totC (o : List Int) {N : Nat} (p q : Ho N) (h1 : ltOf (cfH o) p q = false) (h2 : ltOf (cfH o) q p = false) : p = q := by
  rw [ltC] at *
  simp only [ahd, decide_eq_false_iff_not] at *
  cases p
  cases q
  simp only [Ho.mk.injEq]
  simp only at h1 h2
  omega
theorem grownE {w : World} {N g n : Nat} [Inhabited (Ho N)] {os : Array Obj} (d : Array (Ho N)) : w.grownBy (sortWorld encN w g 0 n d os) (some g) := by
  refine ⟨rfl, rfl, rfl, by simp [sortWorld], fun k hk hne => ?_⟩
  unfold sortWorld
  rw [heap_grow_old _ _ (by simpa using hk)]
  have : g ≠ k := fun e => hne (by rw [e])
  simp [putRow, mapBlock, Sort.ahead, Array.getElem?_modify, this]
theorem heapE {w : World} {N g n : Nat} [Inhabited (Ho N)] {os : Array Obj} {cur : Array Value} {e : TypeId} {fr : Nat × Nat} (d : Array (Ho N)) (hb : w.heap[g]? = some (.cells cur e fr)) :
    (sortWorld encN w g 0 n d os).heap[g]? = some (.cells (putCells encN 0 d cur) e fr) := by
  have hg : g < w.heap.size := (Array.getElem?_eq_some_iff.1 hb).1
  unfold sortWorld
  rw [heap_grow_old _ _ (by simpa using hg)]
  simp [putRow, mapBlock, Sort.ahead, Array.getElem?_modify, hb, onCells]
theorem takeE {N : Nat} [Inhabited (Ho N)] (cur : Array Value) (l : List (Ho N)) (h : l.length ≤ cur.size) : (putCells encN 0 l.toArray cur).toList.take l.length = l.map encN := by
  apply List.ext_getElem?
  intro j
  by_cases hj : j < l.length
  · rw [List.getElem?_take_of_lt hj, Array.getElem?_toList]
    simp [putCells, hj, show j < cur.size by omega]
  · rw [List.getElem?_take_eq_none (by omega), List.getElem?_eq_none (by simp; omega)]
/-- the hosts, as cells -/
def hcs (s : List Nat) : List Value := s.map (fun (x : Nat) => Value.int .i64 (x : Int))
set_option maxHeartbeats 1000000 in
theorem sort78 (w : World) (o : List Int) (N B g cap bx cp : Nat) (b : Addr) (hN : o.length = N) (hN1 : 1 ≤ N) (hN16 : N ≤ 16)
    (hrow : w.ownsRow B 3 1 (.slice (some ⟨g, 0, none⟩) N cap) N (hcs (List.range N)))
    (hbx : w.cell? ⟨bx, 0, none⟩ = some (.slice (some b) N cp)) (ho : ∀ (j : Nat) x, o[j]? = some x → w.cell? (b.add j) = some (.int .i64 x)) (hg1 : bx ≠ g) (hg2 : b.block ≠ g) :
    Calls Try.prog 78 #[.slice (some ⟨g, 0, none⟩) N cap, .func (.func 79) #[] #[.pointer (some ⟨bx, 0, none⟩)]] w fun e w' => e = .returned (.tuple #[]) ∧ (∃ s, Srt o s ∧ w'.ownsRow B 3 1 (.slice (some ⟨g, 0, none⟩) N cap) N (hcs s)) ∧ w.grownBy w' (some g) := by
  haveI : Inhabited (Ho N) := ⟨⟨0, hN1⟩⟩
  have eg : ∀ args w, (callFunc 79 args).run Try.prog w = .ok (.enter 79 args) w := enters_of Try.func79 (by kernel_rfl) rfl
  rcases hrow.2 with ⟨e, _⟩ | ⟨g', cap', cur, e, hb, hgb, h1, h2, h3, h4⟩
  · cases e
  simp only [Value.slice.injEq, Option.some.injEq, Addr.mk.injEq, and_true, true_and] at e
  obtain ⟨rfl, rfl⟩ := e
  have hsz : (rng N).toArray.size = N := by simp [rng_len]
  have hcur : N ≤ cur.size := by omega
  have hH : Holds encN w g 0 (rng N).toArray := by
    intro j hj
    rw [hsz] at hj
    refine ⟨?_, free3 hgb _⟩
    have hj2 : j < (rng N).length := by rw [rng_len]; exact hj
    have e1 : (rng N).toArray[j]! = (rng N)[j] := by rw [getElem!_pos _ j (by rw [hsz]; exact hj)]; simp
    rw [e1, Nat.zero_add]
    refine cellAt hgb j ?_
    have h5 : (hcs (List.range N))[j]? = some (.int .i64 (j : Int)) := by simp [hcs, hj]
    rw [← h4, List.getElem?_take_of_lt (by omega)] at h5
    unfold encN
    rw [rng_at N j hj2]
    simpa using h5
  have hcmp : CmpLays1 Try.prog 79 #[.pointer (some ⟨bx, 0, none⟩)] encN (cfH o (N := N)) g 0 (rng N).toArray.size w := fun m os dk hs x y => by
    have hgr : w.grownBy (sortWorld encN w g 0 m dk os) (some g) := grownE dk
    have keep : ∀ a v, w.cell? a = some v → a.block ≠ g → (sortWorld encN w g 0 m dk os).cell? a = some v := fun a v hc hne =>
      (World.cell?_of_block (hgr.block _ (World.block_lt_of_cell? w _ hc) (fun e => hne (by simpa using e)))).trans hc
    have hx : o[x.val]? = some (o.getD x.val 0) := by
      have hl : x.val < o.length := by rw [hN]; exact x.lt
      rw [List.getD_eq_getElem?_getD, List.getElem?_eq_getElem hl]
      rfl
    have hy : o[y.val]? = some (o.getD y.val 0) := by
      have hl : y.val < o.length := by rw [hN]; exact y.lt
      rw [List.getD_eq_getElem?_getD, List.getElem?_eq_getElem hl]
      rfl
    refine (less79 x.val y.val (o.getD x.val 0) (o.getD y.val 0) bx b N cp _ x.lt y.lt (keep _ _ hbx hg1) (keep _ _ (ho _ _ hx) (by rw [add_block]; exact hg2)) (keep _ _ (ho _ _ hy) (by rw [add_block]; exact hg2))).mono ?_
    rintro e w' ⟨rfl, rfl⟩
    exact ⟨rfl, (((Gw.refl _).andAlloc _).drew).out⟩
  have hcon := Any.slices_SortFunc_total Try.sortI encN (fun _ => rfl) (cfH o (N := N)) (swoC o) 79 #[.pointer (some ⟨bx, 0, none⟩)] g 0 cap (rng N).toArray w eg hcmp hH (Array.getElem?_eq_some_iff.1 hgb).1 (by rw [hsz]; omega) (totC o)
  rw [hsz] at hcon
  change Calls Try.prog 78 #[.slice (some ⟨g, 0, none⟩) N cap, .func (.func 79) #[] #[.pointer (some ⟨bx, 0, none⟩)]] w _ at hcon
  refine hcon.mono ?_
  rintro e w' ⟨rfl, n, os, rfl⟩
  obtain ⟨l, el⟩ : ∃ l, (rng N).mergeSort (fun x y => !ltOf (cfH o) y x) = l := ⟨_, rfl⟩
  have hp : l.Perm (rng N) := by rw [← el]; exact List.mergeSort_perm _ _
  have hs : l.Pairwise (fun a b => (!decide (cfH o b a < 0)) = true) := by
    rw [← el]
    refine List.pairwise_mergeSort (le := fun x y => !ltOf (cfH o) y x) (fun a b c h1 h2 => ?_) (fun a b => ?_) _
    · simp only [Bool.not_eq_true', ltC] at *
      simp only [ahd, decide_eq_false_iff_not] at *
      omega
    · simp only [Bool.or_eq_true, Bool.not_eq_true', ltC]
      simp only [ahd, decide_eq_false_iff_not]
      omega
  have hl : l.length = N := by rw [hp.length_eq, rng_len]
  refine ⟨rfl, ⟨l.map (fun x => x.val), srt_of hN l hp hs, ?_⟩, grownE _⟩
  have eL : (List.toArray ((rng N).toArray.toList.mergeSort (fun x y => !ltOf (cfH o) y x))) = l.toArray := by
    rw [← el]
  rw [eL]
  have hmap : hcs (l.map (fun x => x.val)) = l.map encN := by simp [hcs, encN]
  refine ⟨by rw [hmap]; simp [hl], .inr ⟨g, cap, _, rfl, hb, heapE _ hgb, h1, h2, by simp [putCells, h3], ?_⟩⟩
  rw [hmap, Nat.mul_one]
  have q := takeE cur l (by omega)
  rw [hl] at q
  exact q
end Go.Proofs.Ytbifmcadllilhaa.Pn
