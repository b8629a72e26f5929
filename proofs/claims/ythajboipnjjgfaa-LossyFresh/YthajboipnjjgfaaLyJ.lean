import Derived.Test.YthajboipnjjgfaaLyI
namespace Go.Proofs.Ythajboipnjjgfaa.Ly
open Go.RowKit Go.Maps
set_option linter.unusedVariables false

/-- a row whose block is written out -/
theorem made_row {w : World} {B e size g n : Nat} {xs : List Value} (h : w.ownsRow B e size (.slice (some ⟨g, 0, none⟩) n n) n xs) : ∃ cur : List Value, w.heap[g]? = some (.cells cur.toArray e (0, 0)) ∧ cur.length = n * size ∧ cur = xs := by
  rcases h.2 with ⟨e, _⟩ | ⟨g', cap, cur, e, hb, hg, h1, h2, h3, h4⟩
  · cases e
  · cases e
    refine ⟨cur.toList, by simpa using hg, by simpa using h3, ?_⟩
    rw [← h4, List.take_of_length_le (by simp; omega)]

/-- the datagrams of a list that was told: copies -/
structure Told (w : World) (B : Nat) (L' L : List Gm) : Prop where
  dat : ∀ g ∈ L', Dg w B g
  same : L'.map bare = L.map bare
theorem Told.keep {w w' : World} {B : Nat} {L' L : List Gm} (h : Told w B L' L) (hk : ∀ (k : Nat) (cur : Array Value), w.heap[k]? = some (.cells cur 5 (0, 0)) → w'.heap[k]? = w.heap[k]?) : Told w' B L' L := ⟨fun g hg => (h.dat g hg).keep hk, h.same⟩

theorem set3_take {cu T : List Value} {k M : Nat} {x y z : Value} (hl : cu.length = M * 3) (hk : k < M) (h : cu.take (k * 3) = T) :
    (((cu.set (k * 3) x).set (k * 3 + 1) y).set (k * 3 + 2) z).take ((k + 1) * 3) = T ++ [x, y, z] := by
  have e : (k + 1) * 3 = k * 3 + 1 + 1 + 1 := by omega
  rw [e, List.take_add_one, List.take_add_one, List.take_add_one]
  have e0 : (((cu.set (k * 3) x).set (k * 3 + 1) y).set (k * 3 + 2) z).take (k * 3) = T := by
    rw [List.take_set_of_le (by omega), List.take_set_of_le (by omega), List.take_set_of_le (by omega), h]
  rw [e0, List.getElem?_set_ne (by omega), List.getElem?_set_ne (by omega), List.getElem?_set_self (by omega), List.getElem?_set_ne (by omega), List.getElem?_set_self (by simp; omega), List.getElem?_set_self (by simp; omega)]
  simp
theorem set_list {w : World} {b : Nat} {c : List Value} {t : TypeId} (h : w.heap[b]? = some (.cells c.toArray t (0, 0))) (o : Nat) (u : Value) :
    (w.setCell ⟨b, o, none⟩ u).heap[b]? = some (.cells (c.set o u).toArray t (0, 0)) := by
  rw [set3 h]; simp
theorem cell_list {w : World} {b : Nat} {c : List Value} {t : TypeId} (h : w.heap[b]? = some (.cells c.toArray t (0, 0))) {o : Nat} (ho : o < c.length) : ∃ u, w.cell? ⟨b, o, none⟩ = some u := by
  refine ⟨c[o], ?_⟩
  simp [World.cell?, h, ho]
/-- one more datagram in a row that is filled -/
theorem told_step {w2 : World} {T B k M : Nat} {cu : List Value} {L' L : List Gm} {g : Gm} {d' : Value} (hT : w2.heap[T]? = some (.cells cu.toArray 38 (0, 0))) (hl : cu.length = M * 3) (hk : k < M) (h : cu.take (k * 3) = cells L') (hn : L'.length = k) (ht : Told w2 B L' (L.take k)) (hg : L[k]? = some g)
    (hd : Dg w2 B { g with d := d' }) :
    ∃ cu' : List Value, (((w2.setCell ⟨T, k * 3, none⟩ (.int .u8 g.f)).setCell ⟨T, k * 3 + 1, none⟩ (.int .u8 g.t)).setCell ⟨T, k * 3 + 2, none⟩ d').heap[T]? = some (.cells cu'.toArray 38 (0, 0)) ∧ cu'.length = M * 3 ∧ ∃ L'', L''.length = k + 1 ∧ cu'.take ((k + 1) * 3) = cells L'' ∧
      Told (((w2.setCell ⟨T, k * 3, none⟩ (.int .u8 g.f)).setCell ⟨T, k * 3 + 1, none⟩ (.int .u8 g.t)).setCell ⟨T, k * 3 + 2, none⟩ d') B L'' (L.take (k + 1)) := by
  have kk : Kp (fun i => i = T) w2 (((w2.setCell ⟨T, k * 3, none⟩ (.int .u8 g.f)).setCell ⟨T, k * 3 + 1, none⟩ (.int .u8 g.t)).setCell ⟨T, k * 3 + 2, none⟩ d') := by
    have k0 := Kp.refl (fun i => i = T) w2
    have k1 := k0.andSet ⟨T, k * 3, none⟩ (.int .u8 g.f) (.inr rfl)
    have k2 := k1.andSet ⟨T, k * 3 + 1, none⟩ (.int .u8 g.t) (.inr rfl)
    exact k2.andSet ⟨T, k * 3 + 2, none⟩ d' (.inr rfl)
  have byte : ∀ (i : Nat) (cur : Array Value), w2.heap[i]? = some (.cells cur 5 (0, 0)) → _ = w2.heap[i]? := fun i cur hi => kk.block i (blk_lt hi) (fun e => by subst e; rw [hT] at hi; cases hi)
  refine ⟨_, set_list (set_list (set_list hT _ _) _ _) _ _, by simp [hl], L' ++ [{ g with d := d' }], by simp [hn], ?_, ?_⟩
  · rw [set3_take hl hk h, cells_append]; rfl
  · refine Told.keep (w := w2) ⟨?_, ?_⟩ byte
    · intro x hx
      rcases List.mem_append.1 hx with hx | hx
      · exact ht.dat x hx
      · simp at hx; subst hx; exact hd
    · rw [List.take_add_one, hg, List.map_append, List.map_append, ht.same]
      rfl

section
variable {B b bm nb : Nat} {w w' : World} {room : Int} {D : DataW Unit} {v : Value} {c : Ct} {L : List Gm}

set_option maxRecDepth 100000 in
set_option maxHeartbeats 1000000 in
theorem list_any (h : Nt B w b bm nb room D v c L) : Calls Try.prog 22 #[.pointer (some ⟨b, 0, none⟩)] w fun e w' => ∃ u, e = .returned u ∧ (∃ L', w'.ownsRow w.heap.size 38 3 u L'.length (cells L') ∧ Told w' w.heap.size L' L) ∧ Kp Nu w w' := by
  obtain ⟨i0, hi, hz0, hz1, hz2⟩ := info_parts info38
  have MA := made_any h
  obtain ⟨ad, cap, hvl⟩ := own_slice h.own
  have c1 := h.c1
  rw [hvl] at c1
  have HH := hide h
  have hM4 : L.length ≤ 4096 := by have := h.len; have := h.r1; omega
  obtain ⟨M, hM⟩ : ∃ M, L.length = M := ⟨_, rfl⟩
  have HM := hide hM
  rw [hM] at c1 hM4 hvl
  have HV := hide hvl
  have A1 : Hid (i0.bytes * M ≤ 281474976710656) := by show _ ≤ _; rw [hz2]; omega
  have A2 : Hid (M ≤ maxLen) := by show _ ≤ _; unfold maxLen; omega
  have HM4 := hide hM4
  clear h hM hvl hM4
  go_enter Try.func22, Try.ntmps22
  go_wp2_with fail
  refine MA.mono ?_; rintro e w' ⟨rfl, rfl⟩
  go_wp2_with (at_make; refine wpList_make_full _ rfl _ _ 34 rfl w'.heap.size 38 i0 _ 3 Try.underlying34 hi hz0 hz1 .i64 .i64 _ _ M rfl rfl (by omega) (by omega) A1.out A2.out (Nat.le_refl _) ?_; intro w1 hown hgrow; obtain ⟨cur, HG, HCl, _⟩ := made_row hown; have hk1 : Kp Nu w' w1 := (Kp.of_grown hgrow).mono (fun _ _ e => by cases e); have c1b := (HH.out.nu hk1).c1; rw [HV.out] at c1b; clear hown hgrow)
  go_loopw [20] (fun i wr => ∃ (k : Nat) (cu : List Value), k ≤ M ∧ i = .int .i64 (k : Int) ∧ Hid (wr.heap[w'.heap.size]? = some (.cells cu.toArray 38 (0, 0))) ∧ Hid (cu.length = M * 3 ∧ ∃ L', L'.length = k ∧ cu.take (k * 3) = cells L' ∧ Told wr w'.heap.size L' (L.take k)) ∧ Kp Nu w' wr) (fun i _ => M - (intOf i).toNat)
  case atStart => exact ⟨0, cur, by omega, rfl, HG, ⟨HCl, [], rfl, by simp [cells], ⟨by simp, by simp⟩⟩, hk1⟩
  case round =>
    obtain ⟨k, cu, hk, rfl, hT, hI, hkp⟩ := hrel
    clear hk1 c1b HG HCl c1 MA
    by_cases hlt : k < M
    · have hkL : k < L.length := by rw [HM.out]; exact hlt
      obtain ⟨g, hg⟩ : ∃ g, L[k]? = some g := ⟨_, List.getElem?_eq_getElem hkL⟩
      have hN := HH.out.nu hkp
      obtain ⟨r, cap', hv', e0, e1, e2⟩ := row_at hN.own hg
      rw [HV.out] at hv'
      simp only [Value.slice.injEq] at hv'
      obtain ⟨hv1, hv2, hv3⟩ := hv'
      clear hv2 hv3
      subst hv1
      have hD := hN.dat g (List.mem_of_getElem? hg)
      obtain ⟨k0, cap0, hgd⟩ := hD.slice
      have CO := fun W (k : Kp Nu wr W) => copied_any W g.f g.t g.d g.ys (Rd.of_own (hD.nu k).own) hD.le hD.pos
      have HD := hide hD
      have HG := hide hg
      rw [hgd] at e2 CO
      have hltI : (k : Int) < (M : Int) := by omega
      have hk0 : (0 : Int) ≤ (k : Int) := by omega
      have hk4 : (k : Int) < 4096 := by have := HM4.out; omega
      clear hg hD hN hkL
      generalize hNN : g.ys.length = N at *
      go_wp2_with fail
      refine (CO _ ((Kp.refl Nu wr).andAlloc _)).mono ?_; rintro e w2 ⟨a2, n2, cap2, rfl, ho, hk2⟩
      have k2 : Kp Nu wr w2 := ((Kp.refl Nu wr).andAlloc _).andNu hk2
      have hT2 : w2.heap[w'.heap.size]? = some (.cells cu.toArray 38 (0, 0)) := (k2.block _ (blk_lt hT.out) (fun h => h)).trans hT.out
      have hcl := hI.out.1
      obtain ⟨u0, t0⟩ := cell_list hT2 (o := k * 3) (by omega)
      obtain ⟨u1, t1⟩ := cell_list hT2 (o := k * 3 + 1) (by omega)
      obtain ⟨u2, t2⟩ := cell_list hT2 (o := k * 3 + 2) (by omega)
      have f0 := free3 hT2 (k * 3)
      have f1 := free3 hT2 (k * 3 + 1)
      have f2 := free3 hT2 (k * 3 + 2)
      have HST : Hid (∃ cu' : List Value, (((w2.setCell ⟨w'.heap.size, k * 3, none⟩ (.int .u8 g.f)).setCell ⟨w'.heap.size, k * 3 + 1, none⟩ (.int .u8 g.t)).setCell ⟨w'.heap.size, k * 3 + 2, none⟩ (.slice (some a2) n2 cap2)).heap[w'.heap.size]? = some (.cells cu'.toArray 38 (0, 0)) ∧ cu'.length = M * 3 ∧ ∃ L'', L''.length = k + 1 ∧ cu'.take ((k + 1) * 3) = cells L'' ∧
          Told (((w2.setCell ⟨w'.heap.size, k * 3, none⟩ (.int .u8 g.f)).setCell ⟨w'.heap.size, k * 3 + 1, none⟩ (.int .u8 g.t)).setCell ⟨w'.heap.size, k * 3 + 2, none⟩ (.slice (some a2) n2 cap2)) w'.heap.size L'' (L.take (k + 1))) := by
        obtain ⟨_, L', hn, htk, hTd⟩ := hI.out
        refine told_step hT2 hcl hlt htk hn (hTd.keep (fun i cur hi => k2.block i (blk_lt hi) (fun h => h))) HG.out ?_
        have hD := HD.out
        refine ⟨?_, hD.pos, hD.le, hD.f0, hD.f1, hD.t0, hD.t1⟩
        have hsz := hkp.size
        show w2.ownsRow _ 5 1 _ g.ys.length _
        rw [hNN]
        exact own_base ho (by simp; omega)
      have HKK := hide (((hkp.andNu k2).andSet ⟨w'.heap.size, k * 3, none⟩ (.int .u8 g.f) (.inl (Nat.le_refl _))).andSet ⟨w'.heap.size, k * 3 + 1, none⟩ (.int .u8 g.t) (.inl (Nat.le_refl _)) |>.andSet ⟨w'.heap.size, k * 3 + 2, none⟩ (.slice (some a2) n2 cap2) (.inl (Nat.le_refl _)))
      clear hcl hI hT hT2 CO k2 hk2 ho
      go_wp2
      obtain ⟨cu', h1, h2, h3⟩ := HST.out
      exact ⟨⟨k + 1, cu', by omega, by go_num, h1, ⟨h2, h3⟩, HKK.out⟩, by simp [intOf]; omega⟩
    · have hge : ¬ (k : Int) < (M : Int) := by omega
      obtain rfl : k = M := by omega
      obtain ⟨hcl, L', hn, htk, hTd⟩ := hI.out
      have HO : Hid (wr.ownsRow w'.heap.size 38 3 (.slice (some ⟨w'.heap.size, 0, none⟩) k k) L'.length (cells L')) := by
        refine ⟨by rw [cells_length], .inr ⟨_, _, _, by rw [hn], Nat.le_refl _, hT.out, by omega, A2.out, by simpa using hcl, ?_⟩⟩
        rw [hn]
        simpa using htk
      have HTd : Hid (Told wr w'.heap.size L' L) := by
        rwa [List.take_of_length_le (by rw [HM.out]; omega)] at hTd
      clear hTd htk hcl hI hT
      go_wp2
      go_ret
      exact ⟨_, rfl, ⟨L', HO.out, HTd.out⟩, hkp⟩
end
end Go.Proofs.Ythajboipnjjgfaa.Ly
