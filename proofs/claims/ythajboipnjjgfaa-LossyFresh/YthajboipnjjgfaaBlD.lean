import Derived.Test.YthajboipnjjgfaaBlC
import Derived.Test.YthajboipnjjgfaaSf
namespace Go.Proofs.Ythajboipnjjgfaa.Ly
open Go.RowKit Go.Maps Go.Shelf Go.Sort
set_option linter.unusedVariables false
set_option linter.unusedSimpArgs false

theorem ltL (p q : Int × Int) : ltOf cmpL p q = decide (p.1 < q.1 ∨ (p.1 = q.1 ∧ p.2 < q.2)) := by
  unfold ltOf cmpL orI cmpI
  by_cases h1 : p.1 < q.1
  · simp [h1]
  · by_cases h2 : p.1 > q.1
    · have : p.1 ≠ q.1 := by omega
      simp [h1, h2, this]
    · have : p.1 = q.1 := by omega
      by_cases h3 : p.2 < q.2 <;> by_cases h4 : p.2 > q.2 <;> simp [h1, h2, h3, h4, this]
theorem swoL : SWO (ltOf cmpL) where
  irrefl p := by rw [ltL]; simp
  trans p q r h1 h2 := by rw [ltL] at *; simp at *; omega
  ntrans p q r h1 h2 := by rw [ltL] at *; simp at *; omega
theorem totL (p q : Int × Int) (h1 : ltOf cmpL p q = false) (h2 : ltOf cmpL q p = false) : p = q := by
  rw [ltL] at *
  simp at h1 h2
  exact Prod.ext (by omega) (by omega)

theorem ecs_get (ss : List (Int × Int)) : ∀ t, (ecs ss)[t]? = (ss[t / 2]?).bind (fun p => (encL p)[t % 2]?) := by
  induction ss with
  | nil => intro t; simp [ecs]
  | cons p r ih =>
    intro t
    have e : ecs (p :: r) = .int .u8 p.1 :: .int .u8 p.2 :: ecs r := rfl
    rw [e]
    match t with
    | 0 => rfl
    | 1 => rfl
    | t + 2 =>
      have h1 : (t + 2) / 2 = t / 2 + 1 := by omega
      have h2 : (t + 2) % 2 = t % 2 := by omega
      rw [List.getElem?_cons_succ, List.getElem?_cons_succ, ih, h1, h2, List.getElem?_cons_succ]
theorem ecs_len (ss : List (Int × Int)) : (ecs ss).length = ss.length * 2 := by
  induction ss with
  | nil => rfl
  | cons p r ih => show (ecs r).length + 1 + 1 = _; rw [ih, List.length_cons]; omega
theorem flat_ecs (ss : List (Int × Int)) : flatK encL 2 ss.toArray = (ecs ss).toArray := by
  apply Array.ext
  · simp [ecs_len]
  · intro t h1 h2
    have h3 : t < ss.toArray.size * 2 := by simpa using h1
    have h4 := get_flatK encL 2 ss.toArray t h3
    rw [getElem!_pos _ t h1] at h4
    rw [h4]
    have h5 : t / 2 < ss.length := by simp at h3; omega
    have h6 := ecs_get ss t
    rw [List.getElem?_eq_getElem h5] at h6
    have h7 : (ecs ss)[t]? = some ((ecs ss)[t]'(by simpa using h2)) := List.getElem?_eq_getElem _
    rw [h7] at h6
    have h8 : t % 2 < (encL (ss[t / 2])).length := by simp [encL]; omega
    simp only [Option.bind_some] at h6
    rw [List.getElem?_eq_getElem h8] at h6
    have h9 : ss.toArray[t / 2]! = ss[t / 2] := by rw [getElem!_pos _ (t / 2) (by simpa using h5)]; simp
    rw [h9, getElem!_pos _ (t % 2) h8]
    simp only [Option.some.injEq] at h6
    simpa using h6.symm

theorem holdsV {w : World} {g : Nat} {cur : Array Value} {e : TypeId} {xs : List Value} (hb : w.heap[g]? = some (.cells cur e (0, 0))) (ht : cur.toList.take xs.length = xs) : Holds id w g 0 xs.toArray := by
  intro j hj
  have hj' : j < xs.length := by simpa using hj
  refine ⟨?_, by simp [World.frozen?, hb]⟩
  have h1 : (cur.toList.take xs.length)[j]? = xs[j]? := by rw [ht]
  rw [List.getElem?_take_of_lt hj'] at h1
  simp only [World.cell?, hb, Nat.zero_add]
  simp only [Option.isSome_none, Bool.false_eq_true, if_false]
  rw [← Array.getElem?_toList, h1]
  simp [hj']
theorem heapV {w : World} {g n : Nat} {os : Array Obj} {cur : Array Value} {e : TypeId} {fr : Nat × Nat} (d : Array Value) (hb : w.heap[g]? = some (.cells cur e fr)) :
    (grow (putRow id (Sort.ahead w n) g 0 d) os).heap[g]? = some (.cells (putCells id 0 d cur) e fr) := by
  have hg : g < w.heap.size := (Array.getElem?_eq_some_iff.1 hb).1
  rw [heap_grow_old _ _ (by simpa using hg)]
  simp [putRow, mapBlock, Sort.ahead, Array.getElem?_modify, hb, onCells]
theorem grownV {w : World} {g n : Nat} {os : Array Obj} (d : Array Value) : w.grownBy (grow (putRow id (Sort.ahead w n) g 0 d) os) (some g) := by
  refine ⟨rfl, rfl, rfl, by simp, fun k hk hne => ?_⟩
  rw [heap_grow_old _ _ (by simpa using hk)]
  have : g ≠ k := fun e => hne (by rw [e])
  simp [putRow, mapBlock, Sort.ahead, Array.getElem?_modify, this]
theorem takeV (cur : Array Value) (ts : List Value) (h : ts.length ≤ cur.size) : (putCells id 0 ts.toArray cur).toList.take ts.length = ts := by
  apply List.ext_getElem?
  intro j
  by_cases hj : j < ts.length
  · rw [List.getElem?_take_of_lt hj, Array.getElem?_toList]
    simp [putCells, hj, show j < cur.size by omega]
  · rw [List.getElem?_take_eq_none (by omega), List.getElem?_eq_none (by omega)]

/-- the links in order -/
def srt (ss : List (Int × Int)) : List (Int × Int) := ss.mergeSort fun x y => !(ltOf cmpL) y x
theorem srt_len (ss : List (Int × Int)) : (srt ss).length = ss.length := by simp [srt]
theorem cmpLays (blk off size : Nat) (w : World) : CmpLays Try.prog 62 #[] encL 2 cmpL blk off size w := fun m os dk hs x y =>
  (by_any x y _).mono fun e w' h => ⟨h.1, h.2.out⟩

theorem sort_any (w : World) (B : Nat) (v : Value) (ss : List (Int × Int)) (hn : ss ≠ []) (hrow : w.ownsRow B 86 2 v ss.length (ecs ss)) (hsz : ss.length < 4611686018427387904) :
    Calls Try.prog 80 #[v, .func (.func 62) #[] #[]] w fun e w' => e = .returned (.tuple #[]) ∧ w'.ownsRow B 86 2 v ss.length (ecs (srt ss)) ∧ w.grownBy w' v.ownBlock := by
  have eg : ∀ args w, (callFunc 62 args).run Try.prog w = .ok (.enter 62 args) w := enters_of Try.func62 (by kernel_rfl) rfl
  rcases hrow.2 with ⟨_, h0⟩ | ⟨g, cap, cur, rfl, hb, hgb, h1, h2, h3, h4⟩
  · exact absurd (List.eq_nil_of_length_eq_zero h0) hn
  have hH : HoldsK encL 2 w g 0 ss.toArray := by
    unfold HoldsK
    rw [flat_ecs]
    exact holdsV hgb (by rw [ecs_len]; exact h4)
  have hcon := AnyQ.slices_SortFunc_total Try.sortL 2 Try.isAgg86 Try.sizeOf86 encL (fun _ => rfl) (fun x v hv => by simp [encL] at hv; rcases hv with rfl | rfl <;> rfl) cmpL swoL 62 #[] g 0 cap ss.toArray w eg (cmpLays _ _ _ _) hH (Array.getElem?_eq_some_iff.1 hgb).1 (by simpa using hsz) totL
  change Calls Try.prog 80 #[.slice (some ⟨g, 0, none⟩) ss.length cap, .func (.func 62) #[] #[]] w _ at hcon
  refine hcon.mono ?_
  rintro e w' ⟨rfl, n, os, hw⟩
  have hw2 : w' = grow (putRow id (Sort.ahead w n) g 0 (ecs (srt ss)).toArray) os := by
    rw [hw]
    unfold sortWorldK putRowK
    rw [flat_ecs]
    rfl
  subst hw2
  have hl : (ecs (srt ss)).length = ss.length * 2 := by rw [ecs_len, srt_len]
  refine ⟨rfl, ⟨hl, .inr ⟨g, cap, _, rfl, hb, heapV _ hgb, h1, h2, by simp [putCells, h3], ?_⟩⟩, ?_⟩
  · rw [← hl]
    exact takeV cur _ (by rw [hl, h3]; exact Nat.mul_le_mul_right 2 h1)
  · exact grownV _

/-- slices.SortedFunc over maps.Keys: the links, in order -/
theorem sorted_any (w : World) (Bm b nn : Nat) (D : DataW Unit) (hm : w.cell? ⟨Bm, 0, none⟩ = some (.map (some b))) (hown : w.ownsMap Try.prog 86 unitElem b nn D) (hs : (Maps.size D : Int) ≤ 4611686018427) :
    Calls Try.prog 60 #[.func (.func 81) #[] #[.pointer (some ⟨Bm, 0, none⟩)], .func (.func 62) #[] #[]] w fun e w' => ∃ (v : Value) (ss : List (Int × Int)), e = .returned v ∧ Ks D ss ∧ w'.ownsRow w.heap.size 86 2 v ss.length (ecs (srt ss)) ∧ Kp Nu w w' := by
  have e81 : ∀ args w, (callFunc 81 args).run Try.prog w = .ok (.enter 81 args) w := enters_of Try.func81 (by kernel_rfl) rfl
  have CO := callsIn_wide.1 (collect_any .wide 4 trivial trivial rfl (by omega) 81 #[.pointer (some ⟨Bm, 0, none⟩)] trivial e81 (Ks D) (Maps.size D) (by omega) (by omega) w (keys_gives .wide 2 trivial rfl (by omega) Bm b nn D w hm hown))
  have SN : ∀ W, Calls Try.prog 80 #[.slice none 0 0, .func (.func 62) #[] #[]] W fun e w' => e = .returned (.tuple #[]) ∧ w' = W := fun W => AnyF.slices_SortFunc_none Try.sortL none 0 _ W
  have HSZ := hide hs
  clear e81 hm hown hs
  go_enter Try.func60, Try.ntmps60
  go_wp2_with fail
  refine CO.mono ?_
  rintro e w2 ⟨v, ss, rfl, hS, hrow, hnil, hb⟩
  have HS := hide hS
  by_cases hss : ss = []
  · have hv := hnil.2 hss
    subst hv
    have SO := SN w2
    have HR := hide hrow
    have HB := hide hb
    clear CO SN hnil hrow hb hS
    go_wp2_with fail
    refine SO.mono ?_
    rintro e w3 ⟨rfl, hw⟩
    obtain rfl := hw.symm
    clear SO hw
    go_wp2
    go_ret
    refine ⟨_, ss, rfl, HS.out, ?_, Kp.of_below HB.out⟩
    have e0 : srt ss = ss := by rw [hss]; simp [srt]
    rw [e0]
    exact HR.out
  · have SO := sort_any w2 w.heap.size v ss hss hrow (by have := hS.2.2; have := HSZ.out; omega)
    obtain ⟨ad, cap, hv⟩ := own_slice hrow
    have HB := hide hb
    have HR := hide hrow
    subst hv
    clear CO SN hnil hrow hb hS
    go_wp2_with fail
    refine SO.mono ?_
    rintro e w3 ⟨rfl, hr3, hg3⟩
    clear SO
    go_wp2
    go_ret
    refine ⟨_, ss, rfl, HS.out, hr3, Kp.of_below (HB.out.grown hg3 HB.out.size (fun k e => (HR.out.lt k e).1))⟩

theorem blocked_any {B b bm nb : Nat} {w : World} {room : Int} {D : DataW Unit} {v : Value} {c : Ct} {L : List Gm} (h : Nt B w b bm nb room D v c L) (hnb : (nb : Int) ≤ 4611686018426) :
    Calls Try.prog 47 #[.pointer (some ⟨b, 0, none⟩)] w fun e w' => ∃ (u : Value) (ss : List (Int × Int)), e = .returned u ∧ Ks D ss ∧ w'.ownsRow w.heap.size 86 2 u ss.length (ecs (srt ss)) ∧ Kp Nu w w' := by
  have MA := made_any h
  have c2 := h.c2
  have KI := callsIn_wide.1 (keys_in .wide 1 trivial rfl (some bm) w)
  have SO := sorted_any (w.alloc (.cells #[.map (some bm)] 75)) w.heap.size bm nb D (cell1 (heap_alloc_new w _)) (h.nu (Kp.alloc w _ Nu)).map (by have := h.map.size_le; omega)
  clear h
  go_enter Try.func47, Try.ntmps47
  go_wp2_with fail
  refine MA.mono ?_; rintro e w2 ⟨rfl, hw⟩
  obtain rfl := hw.symm
  clear MA hw
  go_wp2_with fail
  refine KI.mono ?_; rintro e w2 ⟨rfl, rfl⟩
  clear KI
  go_wp2_with fail
  refine SO.mono ?_; rintro e w3 ⟨u, ss, rfl, hK, hr, hk⟩
  obtain ⟨ad, cap, hu⟩ := own_slice hr
  have HR := hide hr
  subst hu
  have HK := hide (And.intro hK hk)
  clear SO hK hk hr
  go_wp2
  go_ret
  refine ⟨_, ss, rfl, HK.out.1, ?_, (Kp.alloc w _ Nu).andNu HK.out.2⟩
  exact ownsRow_base_a HR.out (by simp)
end Go.Proofs.Ythajboipnjjgfaa.Ly
