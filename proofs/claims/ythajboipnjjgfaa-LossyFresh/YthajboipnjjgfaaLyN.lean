import Derived.Test.YthajboipnjjgfaaLyM
namespace Go.Proofs.Ythajboipnjjgfaa.Ly
open Go.RowKit Go.Maps
set_option linter.unusedVariables false

/-- the places that are named among xs -/
def nmd (xs : List Int) (M : Nat) : List Bool := (List.range M).map fun (k : Nat) => decide ((k : Int) ∈ xs)
def bcs (l : List Bool) : List Value := l.map Value.bool
theorem nmd_length (xs : List Int) (M : Nat) : (nmd xs M).length = M := by simp [nmd]
theorem nmd_at (xs : List Int) {M k : Nat} (h : k < M) : (nmd xs M)[k]? = some (decide ((k : Int) ∈ xs)) := by simp [nmd, h]
theorem bcs_at (xs : List Int) {M k : Nat} (h : k < M) : (bcs (nmd xs M))[k]? = some (.bool (decide ((k : Int) ∈ xs))) := by simp [bcs, nmd_at xs h]
theorem nmd_snoc (xs : List Int) (M : Nat) (x : Int) (h0 : 0 ≤ x) (h1 : x < (M : Int)) : bcs (nmd (xs ++ [x]) M) = (bcs (nmd xs M)).set x.toNat (.bool true) := by
  apply List.ext_getElem?
  intro i
  by_cases hi : i < M
  · rw [bcs_at _ hi]
    by_cases e : i = x.toNat
    · subst e
      rw [List.getElem?_set_self (by simp [bcs, nmd]; omega)]
      have : ((x.toNat : Nat) : Int) ∈ xs ++ [x] := by rw [show ((x.toNat : Nat) : Int) = x by omega]; simp
      rw [decide_eq_true this]
    · rw [List.getElem?_set_ne (by omega), bcs_at _ hi]
      have : (i : Int) ∈ xs ++ [x] ↔ (i : Int) ∈ xs := by
        simp only [List.mem_append, List.mem_singleton]
        constructor
        · rintro (h | h)
          · exact h
          · omega
        · exact .inl
      simp only [this]
  · rw [List.getElem?_eq_none (by simp [bcs, nmd]; omega), List.getElem?_eq_none (by simp [bcs, nmd]; omega)]

section
variable {B b bm nb : Nat} {w w' : World} {room : Int} {D : DataW Unit} {v : Value} {c : Ct} {L : List Gm} {xs : List Int}

theorem drop1_any (k : Nat) (f t : Int) (d : Value) (ad : Option Addr) (nn cap : Nat) (hd : d = .slice ad nn cap) (bx T M : Nat) (xs : List Int) (w : World) (h1 : w.heap[bx]? = some (.cells #[.slice (some ⟨T, 0, none⟩) M M] 78 (0, 0))) (h2 : w.heap[T]? = some (.cells (bcs (nmd xs M)).toArray 4 (0, 0))) (hk : k < M) (hM : (M : Int) ≤ 4096) :
    Calls Try.prog 45 #[.int .i64 (k : Int), .agg #[.int .u8 f, .int .u8 t, d], .pointer (some ⟨bx, 0, none⟩)] w fun e w' => e = .returned (.bool (decide ((k : Int) ∈ xs))) ∧ Kp Nu w w' := by
  have K1 := Kp.alloc w (.cells #[.int .u8 f, .int .u8 t, d] 38) Nu
  have c1 := cell1 ((K1.block _ (blk_lt h1) (fun h => h)).trans h1)
  have c2 : (w.alloc (.cells #[.int .u8 f, .int .u8 t, d] 38)).cell? ⟨T, k, none⟩ = some (.bool (decide ((k : Int) ∈ xs))) := by
    have := (K1.block _ (blk_lt h2) (fun h => h)).trans h2
    simp only [World.cell?, this]
    have := bcs_at xs hk
    simpa using this
  have c1' := cell1 h1
  have c2' : w.cell? ⟨T, k, none⟩ = some (.bool (decide ((k : Int) ∈ xs))) := by
    simp only [World.cell?, h2]
    have := bcs_at xs hk
    simpa using this
  subst hd
  generalize decide ((k : Int) ∈ xs) = R at *
  have hkI : (k : Int) < (M : Int) := by omega
  have hk0 : (0 : Int) ≤ (k : Int) := by omega
  clear h1 h2
  go_enter Try.func45, Try.ntmps45
  go_wp2
  all_goals go_ret
  all_goals exact ⟨rfl, by (repeat (first | assumption | exact Kp.refl _ _ | apply Kp.andAlloc | apply Kp.drew))⟩

def inAll (xs : List Int) (M : Nat) : Bool := xs.all fun x => inL x M
/-- what Drop takes -/
def drP (xs : List Int) : Nat → Gm → Bool := fun k _ => decide ((k : Int) ∈ xs)
theorem info4 : (Try.prog.info? 4).map (fun i => (i.zero, i.size, i.bytes)) = some (some (.bool false), 1, 1) := by kernel_rfl

theorem made_bools (M : Nat) : (madeCells (Value.bool false).cells (M * 1)).toList = bcs (nmd [] M) := by
  apply List.ext_getElem?
  intro i
  by_cases h : i < M
  · rw [bcs_at [] h]
    simp [madeCells, Value.cells, h, Nat.mod_one]
  · rw [List.getElem?_eq_none (by simp [madeCells]; omega), List.getElem?_eq_none (by simp [bcs, nmd]; omega)]

/-- Drop's closure while the list is sifted -/
theorem drop_takes (h : Nt B w b bm nb room D v c L) {W : World} (k : Kp Nu w W) {T bx : Nat} {xs : List Int} (hT : w.heap.size ≤ T) (hbx : w.heap.size ≤ bx) (h1 : W.heap[bx]? = some (.cells #[.slice (some ⟨T, 0, none⟩) L.length L.length] 78 (0, 0))) (h2 : W.heap[T]? = some (.cells (bcs (nmd xs L.length)).toArray 4 (0, 0))) (hx0 : 0 ≤ c.x) (hx1 : c.x < 4611686018427387000) :
    Calls Try.prog 44 #[.pointer (some ⟨b, 0, none⟩), .func (.func 45) #[] #[.pointer (some ⟨bx, 0, none⟩)]] W fun e w' => e = .returned (.int .i64 ((L.length : Int) - ((sift (drP xs) 0 L).length : Int))) ∧ ∃ v', Nt B w' b bm nb room D v' { c with x := c.x + ((L.length : Int) - ((sift (drP xs) 0 L).length : Int)) } (sift (drP xs) 0 L) ∧ Fr b bm v w w' v' := by
  refine (takeOut_45 (h.nu k) bx (drP xs) hx0 hx1 (fun W' k' i g hg => ?_)).mono ?_
  · have hD := h.dat g (List.mem_of_getElem? hg)
    obtain ⟨k0, cap, e⟩ := hD.slice
    have hi : i < L.length := (List.getElem?_eq_some_iff.1 hg).1
    have hl := h.len
    have hr := h.r1
    refine drop1_any i g.f g.t g.d _ _ _ e bx T L.length xs W' ?_ ?_ hi (by omega)
    · exact (k'.block _ (blk_lt h1) (fun e => by have := own_lt h.own e.symm; omega)).trans h1
    · exact (k'.block _ (blk_lt h2) (fun e => by have := own_lt h.own e.symm; omega)).trans h2
  · rintro e w2 ⟨rfl, v', hN, hF⟩
    exact ⟨rfl, v', hN, (Fr.of_nu k).trans hF⟩

/-- what Drop answers -/
def DrP (B : Nat) (w : World) (b bm nb : Nat) (room : Int) (D : DataW Unit) (v : Value) (c : Ct) (L : List Gm) (xs : List Int) (e : Ending) (w' : World) : Prop :=
  if inAll xs L.length then e = .returned (.tuple #[.int .i64 ((L.length : Int) - ((sift (drP xs) 0 L).length : Int)), .int .i64 0]) ∧ ∃ v', Nt B w' b bm nb room D v' { c with x := c.x + ((L.length : Int) - ((sift (drP xs) 0 L).length : Int)) } (sift (drP xs) 0 L) ∧ Fr b bm v w w' v'
  else e = .returned (.tuple #[.int .i64 0, .int .i64 54]) ∧ Kp Nu w w'
theorem DrP.out (h : inAll xs L.length = false) {e : Ending} (he : e = .returned (.tuple #[.int .i64 0, .int .i64 54])) (k : Kp Nu w w') : DrP B w b bm nb room D v c L xs e w' := by
  unfold DrP
  rw [h]
  exact ⟨he, k⟩
theorem DrP.in (h : inAll xs L.length = true) {e : Ending} (he : e = .returned (.tuple #[.int .i64 ((L.length : Int) - ((sift (drP xs) 0 L).length : Int)), .int .i64 0])) (k : ∃ v', Nt B w' b bm nb room D v' { c with x := c.x + ((L.length : Int) - ((sift (drP xs) 0 L).length : Int)) } (sift (drP xs) 0 L) ∧ Fr b bm v w w' v') : DrP B w b bm nb room D v c L xs e w' := by
  unfold DrP
  rw [h]
  exact ⟨he, k⟩

set_option maxRecDepth 100000 in
set_option maxHeartbeats 1000000 in
theorem drop_any (h : Nt B w b bm nb room D v c L) (u : Value) (xs : List Int) (hr : RdI w u xs) (hn : (xs.length : Int) ≤ 9223372036854775807) (hx0 : 0 ≤ c.x) (hx1 : c.x < 4611686018427387000) :
    Calls Try.prog 19 #[.pointer (some ⟨b, 0, none⟩), u] w (DrP B w b bm nb room D v c L xs) := by
  obtain ⟨i0, hi, hz0, hz1, hz2⟩ := info_parts info4
  have MA := made_any h
  obtain ⟨ad, cap, hvl⟩ := own_slice h.own
  have c1 := h.c1
  rw [hvl] at c1
  have HH := hide h
  have hM4 : L.length ≤ 4096 := by have := h.len; have := h.r1; omega
  obtain ⟨M, hM⟩ : ∃ M, L.length = M := ⟨_, rfl⟩
  have HM := hide hM
  rw [hM] at c1 hM4 hvl
  have HV := hide hvl
  have A1 : Hid (i0.bytes * M ≤ 281474976710656) := by show _ ≤ _; rw [hz2]; omega
  have A2 : Hid (M ≤ maxLen) := by show _ ≤ _; unfold maxLen; omega
  obtain ⟨ad2, cap2, hu⟩ := hr.slice
  have HR := hide hr
  obtain ⟨N, hN⟩ : ∃ N, xs.length = N := ⟨_, rfl⟩
  have HN := hide hN
  rw [hN] at hu hn
  have HM4 := hide hM4
  subst hu
  clear h hM hvl hM4 hr hN
  go_enter Try.func19, Try.ntmps19
  go_wp2_with fail
  refine MA.mono ?_; rintro e w' ⟨rfl, hw'⟩
  obtain rfl := hw'.symm
  clear MA hw'
  go_wp2_with (at_make; refine wpList_make_full _ rfl _ _ 78 rfl w.heap.size 4 i0 _ 1 Try.underlying78 hi hz0 hz1 .i64 .i64 _ _ M rfl rfl (by omega) (by omega) A1.out A2.out (Nat.le_refl _) ?_; intro w1 hown hgrow; obtain ⟨cur, HG, HCl, HCe⟩ := made_row hown; have hk1 : Kp Nu w w1 := (Kp.of_grown hgrow).mono (fun _ _ e => by cases e); have c1b := (HH.out.nu hk1).c1; rw [HV.out] at c1b; clear hown hgrow)
  have HT0 : Hid ((w1.alloc (.cells #[.slice (some ⟨w.heap.size, 0, none⟩) M M] 78)).heap[w.heap.size]? = some (.cells (bcs (nmd [] M)).toArray 4 (0, 0))) := by
    show _ = _
    rw [Below.heap_alloc _ _ _ (blk_lt HG), HG, HCe, made_bools]
  have HB0 : Hid ((w1.alloc (.cells #[.slice (some ⟨w.heap.size, 0, none⟩) M M] 78)).heap[w1.heap.size]? = some (.cells #[.slice (some ⟨w.heap.size, 0, none⟩) M M] 78 (0, 0))) := heap_alloc_new w1 _
  have hkA := hk1.andAlloc (.cells #[.slice (some ⟨w.heap.size, 0, none⟩) M M] 78)
  have HS1 := hide hk1.size
  have HTT : Hid (w.heap.size ≠ w1.heap.size) := by
    have := blk_lt HG
    show _ ≠ _
    omega
  clear HG HCl HCe c1b c1 hk1 HV
  go_loopw [20] (fun i wr => ∃ k : Nat, k ≤ N ∧ i = .int .i64 (k : Int) ∧ Hid (wr.heap[w.heap.size]? = some (.cells (bcs (nmd (xs.take k) M)).toArray 4 (0, 0))) ∧ Hid (wr.heap[w1.heap.size]? = some (.cells #[.slice (some ⟨w.heap.size, 0, none⟩) M M] 78 (0, 0))) ∧ Hid (∀ x ∈ xs.take k, inL x M = true) ∧ Kp Nu w wr) (fun i _ => N - (intOf i).toNat)
  case atStart => exact ⟨0, by omega, rfl, by simpa using HT0, HB0, by intro x hx; simp at hx, hkA⟩
  case round =>
    obtain ⟨k, hk, rfl, hT, hB, hA, hkp⟩ := hrel
    clear hkA HT0 HB0
    by_cases hlt : k < N
    · have hkL : k < xs.length := by rw [HN.out]; exact hlt
      obtain ⟨x, hx⟩ : ∃ x, xs[k]? = some x := ⟨_, List.getElem?_eq_getElem hkL⟩
      rcases HR.out with ⟨_, e⟩ | ⟨a, o, cap', e, hc⟩
      · subst e; simp at hkL
      have hcx := cell_below (hc k x hx) (Nat.le_refl _) hkp.toBelow
      simp only [Value.slice.injEq] at e
      obtain ⟨e1, e2, e3⟩ := e
      clear e2 e3
      subst e1
      have hN := HH.out.nu hkp
      have HA := has_any hN x
      rw [HM.out] at HA
      have hltI : (k : Int) < (N : Int) := by omega
      have hk0 : (0 : Int) ≤ (k : Int) := by omega
      have HX := hide hx
      have HC := hide hc
      clear hc hx hkL hN
      cases hin : inL x M
      · rw [hin] at HA
        have HE : Hid (inAll xs L.length = false) := by
          show _ = _
          rw [inAll, List.all_eq_false]
          refine ⟨x, List.mem_of_getElem? HX.out, ?_⟩
          rw [HM.out, hin]
          simp
        clear hin
        go_wp2_with fail
        refine HA.mono ?_; rintro e w2 ⟨rfl, hw2⟩
        obtain rfl := hw2.symm
        clear HA hw2
        go_wp2
        go_ret2
        exact DrP.out HE.out rfl hkp
      · rw [hin] at HA
        have hxx : 0 ≤ x ∧ x < (M : Int) := by simpa [inL] using hin
        obtain ⟨hx0', hx1'⟩ := hxx
        have hb1 := cell1 hB.out
        have ht1 : ∃ u, wr.cell? ⟨w.heap.size, x.toNat, none⟩ = some u := cell_list hT.out (by simp [bcs, nmd]; omega)
        obtain ⟨u1, ht1⟩ := ht1
        have ht2 := free3 hT.out x.toNat
        have HT2 : Hid ((wr.setCell ⟨w.heap.size, x.toNat, none⟩ (.bool true)).heap[w.heap.size]? = some (.cells (bcs (nmd (xs.take (k + 1)) M)).toArray 4 (0, 0))) := by
          show _ = _
          rw [set_list hT.out, List.take_add_one, HX.out]
          simp only [Option.toList]
          rw [nmd_snoc _ _ _ hx0' hx1']
        have HB2 : Hid ((wr.setCell ⟨w.heap.size, x.toNat, none⟩ (.bool true)).heap[w1.heap.size]? = some (.cells #[.slice (some ⟨w.heap.size, 0, none⟩) M M] 78 (0, 0))) := ((Kp.setCell wr ⟨w.heap.size, x.toNat, none⟩ (.bool true)).block _ (blk_lt hB.out) (fun e => HTT.out (Eq.symm e))).trans hB.out
        have HA2 : Hid (∀ y ∈ xs.take (k + 1), inL y M = true) := by
          intro y hy
          rw [List.take_add_one, HX.out] at hy
          rcases List.mem_append.1 hy with hy | hy
          · exact hA.out y hy
          · simp at hy; subst hy; exact hin
        have HK2 := hide (hkp.andSet ⟨w.heap.size, x.toNat, none⟩ (.bool true) (.inl (Nat.le_refl _)))
        clear hin hT hB hA hkp
        go_wp2_with fail
        refine HA.mono ?_; rintro e w2 ⟨rfl, hw2⟩
        obtain rfl := hw2.symm
        clear HA hw2
        go_wp2
        exact ⟨⟨k + 1, by omega, by go_num, HT2, HB2, HA2, HK2.out⟩, by simp [intOf]; omega⟩
    · have hge : ¬ (k : Int) < (N : Int) := by omega
      have eX : xs.take k = xs := List.take_of_length_le (by rw [HN.out]; omega)
      rw [eX] at hT hA
      clear eX
      have HE : Hid (inAll xs L.length = true) := by
        show _ = _
        rw [inAll, List.all_eq_true, HM.out]
        exact hA.out
      have TO := drop_takes HH.out hkp (T := w.heap.size) (bx := w1.heap.size) (xs := xs) (Nat.le_refl _) HS1.out (by rw [HM.out]; exact hB.out) (by rw [HM.out]; exact hT.out) hx0 hx1
      clear hT hB hA
      go_wp2_with fail
      refine TO.mono ?_; rintro e w2 ⟨rfl, hN⟩
      go_wp2
      go_ret2
      exact DrP.in HE.out rfl hN
end
end Go.Proofs.Ythajboipnjjgfaa.Ly
