import Derived.Test.YtffcnonhhfhlhaaTgB
import Derived.Test.YtffcnonhhfhlhaaSf
import Derived.Sort.Grow
import Derived.Deep.Draws
namespace Go.Proofs.Ytffcnonhhfhlhaa.Rg
open Go.RowKit Go.Shelf Go.Sort Go.Maps
open Go.Proofs.Ytffcnonhhfhlhaa.It
set_option linter.unusedVariables false
set_option linter.unusedSimpArgs false

def cmpI (x y : Int) : Int := if x < y then -1 else if x > y then 1 else 0
theorem compare_any (x y : Int) (w : World) : Calls Try.prog 47 #[.int .u8 x, .int .u8 y] w fun e w' => e = .returned (.int .i64 (cmpI x y)) ∧ w' = w := by
  have N53 : ∀ x w, Calls Try.prog 53 #[.int .u8 x] w fun e w' => e = .returned (.bool false) ∧ w' = w := fun x w => by
    have hx : (x != x) = false := by simp
    go_enter Try.func53, Try.ntmps53
    go_wp2
    go_ret
    exact ⟨by simp, rfl⟩
  have n1 := N53 x w
  have n2 := N53 y w
  clear N53
  unfold cmpI
  by_cases h1 : x < y
  · rw [if_pos h1]
    go_enter Try.func47, Try.ntmps47
    go_wp2_with fail
    refine n1.mono ?_; rintro e w2 ⟨rfl, hw⟩; obtain rfl := hw.symm; clear n1 hw
    go_wp2_with fail
    refine n2.mono ?_; rintro e w2 ⟨rfl, hw⟩; obtain rfl := hw.symm; clear n2 hw
    go_wp2
    go_ret
    exact ⟨rfl, rfl⟩
  · rw [if_neg h1]
    by_cases h2 : x > y
    · rw [if_pos h2]
      go_enter Try.func47, Try.ntmps47
      go_wp2_with fail
      refine n1.mono ?_; rintro e w2 ⟨rfl, hw⟩; obtain rfl := hw.symm; clear n1 hw
      go_wp2_with fail
      refine n2.mono ?_; rintro e w2 ⟨rfl, hw⟩; obtain rfl := hw.symm; clear n2 hw
      go_wp2
      go_ret
      exact ⟨rfl, rfl⟩
    · rw [if_neg h2]
      go_enter Try.func47, Try.ntmps47
      go_wp2_with fail
      refine n1.mono ?_; rintro e w2 ⟨rfl, hw⟩; obtain rfl := hw.symm; clear n1 hw
      go_wp2_with fail
      refine n2.mono ?_; rintro e w2 ⟨rfl, hw⟩; obtain rfl := hw.symm; clear n2 hw
      go_wp2
      go_ret
      exact ⟨rfl, rfl⟩

structure Gw (w w' : World) : Prop where
  out : ∃ q os, w' = Sort.grow (w.drewN q) os
theorem Gw.refl (w : World) : Gw w w := ⟨⟨0, #[], by rw [Sort.grow_empty]; rfl⟩⟩
theorem Gw.andAlloc {w w' : World} (h : Gw w w') (o : Obj) : Gw w (w'.alloc o) := by
  obtain ⟨q, os, rfl⟩ := h.out
  exact ⟨⟨q, _, by rw [Sort.alloc_eq_grow, Sort.grow_grow]⟩⟩
theorem Gw.drew {w w' : World} (h : Gw w w') : Gw w w'.drew := by
  obtain ⟨q, os, rfl⟩ := h.out
  exact ⟨⟨q + 1, os, rfl⟩⟩
theorem Gw.block {w w' : World} (h : Gw w w') {k : Nat} (hk : k < w.heap.size) : w'.heap[k]? = w.heap[k]? := by
  obtain ⟨q, os, rfl⟩ := h.out
  show (w.heap ++ os)[k]? = _
  rw [Array.getElem?_append_left hk]
theorem Gw.cell {w w' : World} (h : Gw w w') {k n : Nat} {v : Value} (hc : w.cell? ⟨k, n, none⟩ = some v) : w'.cell? ⟨k, n, none⟩ = some v := by
  have hk : k < w.heap.size := World.block_lt_of_cell? w ⟨k, n, none⟩ hc
  simp only [World.cell?, h.block hk] at hc ⊢
  exact hc
theorem Gw.trans {w w' w'' : World} (h : Gw w w') (k : Gw w' w'') : Gw w w'' := by
  obtain ⟨q, os, rfl⟩ := h.out
  obtain ⟨q', os', rfl⟩ := k.out
  refine ⟨⟨q + q', os ++ os', ?_⟩⟩
  have : (Sort.grow (w.drewN q) os).drewN q' = Sort.grow (w.drewN (q + q')) os := by
    show Sort.grow ((w.drewN q).drewN q') os = _
    rw [World.drewN_drewN]
  rw [this, Sort.grow_grow]

theorem byHost_any (a c : Sh) (w : World) : Calls Try.prog 46 #[encS a, encS c] w fun e w' => e = .returned (.int .i64 (cmpI a.h c.h)) ∧ Gw w w' := by
  have CC := fun W => compare_any a.h c.h W
  have K0 : Gw w ((w.alloc (.cells #[.int .u8 a.h, .int .i64 a.n, .int .u64 a.k] 80)).alloc (.cells #[.int .u8 c.h, .int .i64 c.n, .int .u64 c.k] 80)) := ((Gw.refl w).andAlloc _).andAlloc _
  unfold encS
  go_enter Try.func46, Try.ntmps46
  go_wp2_with fail
  refine (CC _).mono ?_; rintro e w2 ⟨rfl, hw⟩; obtain rfl := hw.symm; clear CC hw
  go_wp2
  go_ret
  exact ⟨rfl, K0⟩

theorem ltH (p q : Int) : ltOf cmpI p q = decide (p < q) := by
  unfold ltOf cmpI
  by_cases h1 : p < q
  · simp [h1]
  · by_cases h2 : p > q <;> simp [h1, h2]
theorem swoH : SWO (ltOf cmpI) where
  irrefl p := by rw [ltH]; simp
  trans p q r h1 h2 := by rw [ltH] at *; simp at *; omega
  ntrans p q r h1 h2 := by rw [ltH] at *; simp at *; omega
theorem totH (p q : Int) (h1 : ltOf cmpI p q = false) (h2 : ltOf cmpI q p = false) : p = q := by
  rw [ltH] at *
  simp at h1 h2
  omega
/-- a host's share, its cells -/
def encH (A : List Sg) (h : Int) : List Value := [.int .u8 h, .int .i64 (cntL A h), .int .u64 (keyL A h - 1)]
def cellsH (A : List Sg) (hs : List Int) : List Value := hs.flatMap (encH A)
theorem cellsH_append (A : List Sg) (a b : List Int) : cellsH A (a ++ b) = cellsH A a ++ cellsH A b := by simp [cellsH]
theorem cellsH_len (A : List Sg) (ss : List Int) : (cellsH A ss).length = ss.length * 3 := by
  induction ss with
  | nil => rfl
  | cons p r ih => show (cellsH A r).length + 1 + 1 + 1 = _; rw [ih, List.length_cons]; omega
theorem cellsH_get (A : List Sg) (ss : List Int) : ∀ t, (cellsH A ss)[t]? = (ss[t / 3]?).bind (fun p => (encH A p)[t % 3]?) := by
  induction ss with
  | nil => intro t; simp [cellsH]
  | cons p r ih =>
    intro t
    have e : cellsH A (p :: r) = .int .u8 p :: .int .i64 (cntL A p) :: .int .u64 (keyL A p - 1) :: cellsH A r := rfl
    rw [e]
    match t with
    | 0 => rfl
    | 1 => rfl
    | 2 => rfl
    | t + 3 =>
      have h1 : (t + 3) / 3 = t / 3 + 1 := by omega
      have h2 : (t + 3) % 3 = t % 3 := by omega
      rw [List.getElem?_cons_succ, List.getElem?_cons_succ, List.getElem?_cons_succ, ih, h1, h2, List.getElem?_cons_succ]
theorem flat_H (A : List Sg) (ss : List Int) : flatK (encH A) 3 ss.toArray = (cellsH A ss).toArray := by
  apply Array.ext
  · simp [cellsH_len]
  · intro t h1 h2
    have h3 : t < ss.toArray.size * 3 := by simpa using h1
    have h4 := get_flatK (encH A) 3 ss.toArray t h3
    rw [getElem!_pos _ t h1] at h4
    rw [h4]
    have h5 : t / 3 < ss.length := by simp at h3; omega
    have h6 := cellsH_get A ss t
    rw [List.getElem?_eq_getElem h5] at h6
    have h7 : (cellsH A ss)[t]? = some ((cellsH A ss)[t]'(by simpa using h2)) := List.getElem?_eq_getElem _
    rw [h7] at h6
    have h8 : t % 3 < (encH A (ss[t / 3])).length := by simp [encH]; omega
    simp only [Option.bind_some] at h6
    rw [List.getElem?_eq_getElem h8] at h6
    have h9 : ss.toArray[t / 3]! = ss[t / 3] := by rw [getElem!_pos _ (t / 3) (by simpa using h5)]; simp
    rw [h9, getElem!_pos _ (t % 3) h8]
    simp only [Option.some.injEq] at h6
    simpa using h6.symm
theorem holdsV {w : World} {g : Nat} {cur : Array Value} {e : TypeId} {xs : List Value} (hb : w.heap[g]? = some (.cells cur e (0, 0))) (ht : cur.toList.take xs.length = xs) : Holds id w g 0 xs.toArray := by
  intro j hj
  have hj' : j < xs.length := by simpa using hj
  refine ⟨?_, by simp [World.frozen?, hb]⟩
  have h1 : (cur.toList.take xs.length)[j]? = xs[j]? := by rw [ht]
  rw [List.getElem?_take_of_lt hj'] at h1
  simp only [World.cell?, hb, Nat.zero_add]
  simp only [Option.isSome_none, Bool.false_eq_true, if_false]
  rw [← Array.getElem?_toList, h1]
  simp [hj']
theorem heapV {w : World} {g n : Nat} {os : Array Obj} {cur : Array Value} {e : TypeId} {fr : Nat × Nat} (d : Array Value) (hb : w.heap[g]? = some (.cells cur e fr)) :
    (grow (putRow id (Sort.ahead w n) g 0 d) os).heap[g]? = some (.cells (putCells id 0 d cur) e fr) := by
  have hg : g < w.heap.size := (Array.getElem?_eq_some_iff.1 hb).1
  rw [heap_grow_old _ _ (by simpa using hg)]
  simp [putRow, mapBlock, Sort.ahead, Array.getElem?_modify, hb, onCells]
theorem grownV {w : World} {g n : Nat} {os : Array Obj} (d : Array Value) : w.grownBy (grow (putRow id (Sort.ahead w n) g 0 d) os) (some g) := by
  refine ⟨rfl, rfl, rfl, by simp, fun k hk hne => ?_⟩
  rw [heap_grow_old _ _ (by simpa using hk)]
  have : g ≠ k := fun e => hne (by rw [e])
  simp [putRow, mapBlock, Sort.ahead, Array.getElem?_modify, this]
theorem takeV (cur : Array Value) (ts : List Value) (h : ts.length ≤ cur.size) : (putCells id 0 ts.toArray cur).toList.take ts.length = ts := by
  apply List.ext_getElem?
  intro j
  by_cases hj : j < ts.length
  · rw [List.getElem?_take_of_lt hj, Array.getElem?_toList]
    simp [putCells, hj, show j < cur.size by omega]
  · rw [List.getElem?_take_eq_none (by omega), List.getElem?_eq_none (by omega)]


/-- the hosts in order -/
def srt (ss : List Int) : List Int := ss.mergeSort fun x y => !(ltOf cmpI) y x
theorem srt_len (ss : List Int) : (srt ss).length = ss.length := by simp [srt]
theorem cmpLays (A : List Sg) (blk off size : Nat) (w : World) : CmpLays Try.prog 46 #[] (encH A) 3 cmpI blk off size w := fun m os dk hs x y =>
  (byHost_any ⟨x, cntL A x, keyL A x - 1⟩ ⟨y, cntL A y, keyL A y - 1⟩ _).mono fun e w' h => ⟨h.1, h.2.out⟩

theorem sort_any (w : World) (B : Nat) (v : Value) (A : List Sg) (ss : List Int) (hn : ss ≠ []) (hrow : w.ownsRow B 80 3 v ss.length (cellsH A ss)) (hsz : ss.length < 4611686018427387904) :
    Calls Try.prog 45 #[v, .func (.func 46) #[] #[]] w fun e w' => e = .returned (.tuple #[]) ∧ w'.ownsRow B 80 3 v ss.length (cellsH A (srt ss)) ∧ w.grownBy w' v.ownBlock := by
  have eg : ∀ args w, (callFunc 46 args).run Try.prog w = .ok (.enter 46 args) w := enters_of Try.func46 (by kernel_rfl) rfl
  rcases hrow.2 with ⟨_, h0⟩ | ⟨g, cap, cur, rfl, hb, hgb, h1, h2, h3, h4⟩
  · exact absurd (List.eq_nil_of_length_eq_zero h0) hn
  have hH : HoldsK (encH A) 3 w g 0 ss.toArray := by
    unfold HoldsK
    rw [flat_H]
    exact holdsV hgb (by rw [cellsH_len]; exact h4)
  have hcon := AnyQ.slices_SortFunc_total Try.sortS 3 Try.isAgg80 Try.sizeOf80 (encH A) (fun _ => rfl) (fun x v hv => by simp [encH] at hv; rcases hv with rfl | rfl | rfl <;> rfl) cmpI swoH 46 #[] g 0 cap ss.toArray w eg (cmpLays A _ _ _ _) hH (Array.getElem?_eq_some_iff.1 hgb).1 (by simpa using hsz) totH
  change Calls Try.prog 45 #[.slice (some ⟨g, 0, none⟩) ss.length cap, .func (.func 46) #[] #[]] w _ at hcon
  refine hcon.mono ?_
  rintro e w' ⟨rfl, n, os, hw⟩
  have hw2 : w' = grow (putRow id (Sort.ahead w n) g 0 (cellsH A (srt ss)).toArray) os := by
    rw [hw]
    unfold sortWorldK putRowK
    rw [flat_H]
    rfl
  subst hw2
  have hl : (cellsH A (srt ss)).length = ss.length * 3 := by rw [cellsH_len, srt_len]
  refine ⟨rfl, ⟨hl, .inr ⟨g, cap, _, rfl, hb, heapV _ hgb, h1, h2, by simp [putCells, h3], ?_⟩⟩, ?_⟩
  · rw [← hl]
    exact takeV cur _ (by rw [hl, h3]; exact Nat.mul_le_mul_right 3 h1)
  · exact grownV _
end Go.Proofs.Ytffcnonhhfhlhaa.Rg
