import Derived.Test.YthajboipnjjgfaaLyK
namespace Go.Proofs.Ythajboipnjjgfaa.Ly
open Go.RowKit Go.Maps
set_option linter.unusedVariables false

section
variable {B b bm nb : Nat} {w w' : World} {room : Int} {D : DataW Unit} {v : Value} {c : Ct} {L : List Gm}

/-- the network behind a sifting -/
theorem Nt.sifted {W : World} (h : Nt B w b bm nb room D v c L) {r cap j : Nat} (hv : v = .slice (some ⟨r, 0, none⟩) L.length cap) (k : Kp (fun i => i = r) w W) {p : Nat → Gm → Bool} {cu : List Value} (hr : W.heap[r]? = some (.cells cu.toArray 38 (0, 0))) (hl : cu.length = cap * 3) (hc : cap ≤ maxLen) (hj : j = (sift p 0 L).length) (ht : cu.take (j * 3) = cells (sift p 0 L)) (hjc : j ≤ cap) (n : Int) :
    Nt B ((W.setCell ⟨b, 1, none⟩ (.slice (some ⟨r, 0, none⟩) j cap)).setCell ⟨b, 7, none⟩ (.int .i64 (c.x + n))) b bm nb room D (.slice (some ⟨r, 0, none⟩) j cap) { c with x := c.x + n } (sift p 0 L) ∧ Fr b bm v w ((W.setCell ⟨b, 1, none⟩ (.slice (some ⟨r, 0, none⟩) j cap)).setCell ⟨b, 7, none⟩ (.int .i64 (c.x + n))) (.slice (some ⟨r, 0, none⟩) j cap) := by
  have hob : v.ownBlock = some r := by rw [hv]; rfl
  have hBr : B ≤ r := h.low r (.inr (.inr hob.symm))
  have own : W.ownsRow B 38 3 (.slice (some ⟨r, 0, none⟩) j cap) (sift p 0 L).length (cells (sift p 0 L)) := by
    refine ⟨cells_length _, .inr ⟨r, cap, cu.toArray, by rw [hj], hBr, hr, by omega, hc, by simpa using hl, ?_⟩⟩
    rw [← hj]; simpa using ht
  have hle := sift_length_le p L 0
  have hlen := h.len
  have hN := h.push k (fun i e => by rw [hob, e]) own (.inl (by rw [hob]; rfl)) (fun g hg => (h.dat g (sift_mem p L 0 g hg)).keep (fun i cur hi => k.block i (blk_lt hi) (fun e => by
    subst e
    exact h.byte hi (.inr (.inr hob.symm))))) (by omega)
  refine ⟨hN.set 7 _ rfl, ⟨fp_set (fp_set (k.mono (fun i _ e => .inr (.inr (by rw [hob, e])))) _ _) _ _, .inl (by rw [hob]; rfl)⟩⟩

theorem clear38 {W : World} {r cap j n cp : Nat} {cu : List Value} (hr : W.heap[r]? = some (.cells cu.toArray 38 (0, 0))) (hl : cu.length = cap * 3) (hn : 0 < n) (hj : j + n ≤ cap) (ty : TypeId) :
    ∃ cu' : List Value, (Builtin.clear_ #[34] ty #[.slice (some ⟨r, j * 3, none⟩) n cp]).run Try.prog W = .ok (.tuple #[]) (W.setRow r cu'.toArray) ∧ cu'.length = cap * 3 ∧ cu'.take (j * 3) = cu.take (j * 3) := by
  obtain ⟨m, rfl⟩ : ∃ m, n = m + 1 := ⟨n - 1, by omega⟩
  exact run_clear38 hr hl hj ty

theorem slice_nil (w : World) : (Instr.slice 34 (.slice none 0 0) none (some (.int .i64 0)) none).run Try.prog w = .ok (.slice none 0 0) w := by kernel_rfl

set_option maxRecDepth 100000 in
set_option maxHeartbeats 1000000 in
theorem takeOut_45 (h : Nt B w b bm nb room D v c L) (bx : Nat) (p : Nat → Gm → Bool) (hx0 : 0 ≤ c.x) (hx1 : c.x < 4611686018427387000)
    (hF : ∀ W, Kp (fun i => some i = v.ownBlock) w W → ∀ (k : Nat) (g : Gm), L[k]? = some g → Calls Try.prog 45 #[.int .i64 (k : Int), .agg #[.int .u8 g.f, .int .u8 g.t, g.d], .pointer (some ⟨bx, 0, none⟩)] W fun e W' => e = .returned (.bool (p k g)) ∧ Kp Nu W W') :
    Calls Try.prog 44 #[.pointer (some ⟨b, 0, none⟩), .func (.func 45) #[] #[.pointer (some ⟨bx, 0, none⟩)]] w fun e w' => e = .returned (.int .i64 ((L.length : Int) - ((sift p 0 L).length : Int))) ∧ ∃ v', Nt B w' b bm nb room D v' { c with x := c.x + ((L.length : Int) - ((sift p 0 L).length : Int)) } (sift p 0 L) ∧ Fr b bm v w w' v' := by
  have MA := made_any h
  rcases h.own.2 with ⟨hv0, h0⟩ | ⟨r, cap, cur, hv, hB, hg, h1, h2, h3, h4⟩
  · have hL : L = [] := List.eq_nil_of_length_eq_zero h0
    subst hL hv0
    have c1 := h.c1
    have c7 := h.c7
    have f1 := free3 h.blk 1
    have f7 := free3 h.blk 7
    have hcl : ∀ ty W, (Builtin.clear_ #[34] ty #[.slice none 0 0]).run Try.prog W = .ok (.tuple #[]) W := fun ty W => by simp [Builtin.clear_, run_underlying Try.underlying34, Result.andThen]
    have e0 : sift p 0 [] = [] := rfl
    have hN : Nt B ((w.setCell ⟨b, 1, none⟩ (.slice none 0 0)).setCell ⟨b, 7, none⟩ (.int .i64 c.x)) b bm nb room D (.slice none 0 0) c [] := (h.set 1 _ rfl).set 7 _ rfl
    have hFr : Fr b bm (.slice none 0 0) w ((w.setCell ⟨b, 1, none⟩ (.slice none 0 0)).setCell ⟨b, 7, none⟩ (.int .i64 c.x)) (.slice none 0 0) := ((Fr.refl _ _ _ _).set _ _).set _ _
    have HN := hide hN
    have HFr := hide hFr
    have HX : Hid (c = { c with x := c.x + (([] : List Gm).length - (([] : List Gm).length : Int)) }) := by
      show c = _
      cases c; simp
    rw [e0, ← HX.out]
    clear h hN hFr hF
    go_enter Try.func44, Try.ntmps44
    go_wp2_with fail
    refine MA.mono ?_; rintro e w' ⟨rfl, rfl⟩
    go_wp2
    go_loopw [5, 22] (fun u i wr => u = .slice none 0 0 ∧ i = .int .i64 0 ∧ wr = w') (fun _ _ _ => 0)
    case atStart => exact ⟨rfl, rfl, rfl⟩
    case round =>
      obtain ⟨rfl, rfl, hwr⟩ := hrel
      obtain rfl := hwr.symm
      go_wp2
      go_ret
      exact ⟨rfl, _, HN.out, HFr.out⟩
  · have HH := hide h
    have c1 := h.c1
    rw [hv] at c1
    have hM4 : L.length ≤ 4096 := by have := h.len; have := h.r1; omega
    have hrb : r ≠ b := (h.ne_own (g := r) (by rw [hv]; rfl)).1
    have hob : v.ownBlock = some r := by rw [hv]; rfl
    obtain ⟨M, hM⟩ : ∃ M, L.length = M := ⟨_, rfl⟩
    have HM := hide hM
    have hv' := hv
    rw [hM] at c1 hM4 hv' h1
    have HM4 := hide hM4
    have HV := hide hv
    have hlen4 : (M : Int) ≤ 4096 := by omega
    have hSt : St w r cap 0 0 p L cur.toList := St.start (by simpa using hg) (by simpa using h3) h4
    have HSt := hide hSt
    have HC := hide h2
    have HcM : Hid (M ≤ cap) := h1
    obtain ⟨i0, hi, hz0, hz1, hz2⟩ := info_parts info38
    rw [hob] at hF
    have HF := hide hF
    rw [hM]
    obtain ⟨J, hJ⟩ : ∃ J, (sift p 0 L).length = J := ⟨_, rfl⟩
    have HJ := hide hJ
    have HJM : Hid (J ≤ M) := by have := sift_length_le p L 0; show _ ≤ _; omega
    rw [hJ]
    clear h hM hM4 hv h2 h3 h4 hg h1 hv' hSt hF hJ
    go_enter Try.func44, Try.ntmps44
    go_wp2_with fail
    refine MA.mono ?_; rintro e w' ⟨rfl, rfl⟩
    clear MA
    go_wp2_with fail
    go_loopw [5, 22] (fun u i wr => ∃ (k j : Nat) (cu : List Value), k ≤ M ∧ u = .slice (some ⟨r, 0, none⟩) j cap ∧ i = .int .i64 (k : Int) ∧ Hid (St wr r cap k j p L cu) ∧ Kp (fun i => i = r) w' wr) (fun _ i _ => M - (intOf i).toNat)
    case atStart => exact ⟨0, 0, _, by omega, rfl, rfl, HSt, Kp.refl _ _⟩
    case round =>
      obtain ⟨k, j, cu, hk, rfl, rfl, hS, hkp⟩ := hrel
      by_cases hlt : k < M
      · have hkL : k < L.length := by rw [HM.out]; exact hlt
        obtain ⟨g, hg⟩ : ∃ g, L[k]? = some g := ⟨_, List.getElem?_eq_getElem hkL⟩
        obtain ⟨e0, e1, e2⟩ := hS.out.at hg
        have hD := HH.out.dat g (List.mem_of_getElem? hg)
        obtain ⟨k0, cap0, hgd⟩ := hD.slice
        have kA := hkp.andAlloc (.cells #[.int .u8 g.f, .int .u8 g.t, g.d] 38)
        have CF := HF.out _ (kA.mono (fun i _ e => by rw [e])) k g hg
        have hcp : k < cap := by have := HcM.out; omega
        have HG := hide hg
        have hltI : (k : Int) < (M : Int) := by omega
        have hk0 : (0 : Int) ≤ (k : Int) := by omega
        have hk4 : (k : Int) < 4096 := by omega
        obtain ⟨N, hN⟩ : ∃ N, g.ys.length = N := ⟨_, rfl⟩
        rw [hN] at hgd
        have HGD := hide hgd
        rw [hgd] at e2 CF kA
        clear hg hD hkL hgd hN c1
        cases hp : p k g
        · rw [hp] at CF
          have HP := hide hp
          clear hp
          go_wp2_with fail
          refine CF.mono ?_; rintro e W ⟨rfl, hkW⟩
          have hS2 := (hS.out.keep (Kp.alloc wr _ Nu)).keep hkW
          have hjk := hS2.le
          have hbx := new_at wr _ hkW
          obtain ⟨x0, x1, x2⟩ := cell3 hbx
          have hSb := hS2.keep (Kp.alloc W (.cells #[.int .u8 g.f, .int .u8 g.t, .slice (some ⟨k0, 0, none⟩) N cap0] 38) Nu)
          have HRUN := hide (run_append_room (P := Try.prog) (W.alloc (.cells #[.int .u8 g.f, .int .u8 g.t, .slice (some ⟨k0, 0, none⟩) N cap0] 38)) 34 34 38 i0 Try.underlying34 hi r j cap cu.toArray hSb.row ⟨W.heap.size, 0, none⟩ 1 1 g.cells (by rw [hz1]; rfl) (by
            intro q u hq
            rw [Addr.add_lit]
            have := heap_alloc_new W (.cells #[.int .u8 g.f, .int .u8 g.t, .slice (some ⟨k0, 0, none⟩) N cap0] 38)
            simp only [World.cell?, this]
            simpa [Gm.cells, HGD.out] using hq) (by
            intro u hu
            simp only [Gm.cells, List.mem_cons, List.not_mem_nil, or_false] at hu
            rcases hu with rfl | rfl | rfl
            · rfl
            · rfl
            · rw [HGD.out]; rfl) (by omega) (by
            have := hSb.len
            rw [hz1]
            simp [Gm.cells]
            omega))
          have HADD : Hid (St _ r cap (k + 1) (j + 1) p L _) := hSb.add HG.out HP.out hcp
          rw [hz1] at HRUN
          have HKK := hide (((kA.andNu hkW).andAlloc (.cells #[.int .u8 g.f, .int .u8 g.t, .slice (some ⟨k0, 0, none⟩) N cap0] 38)).trans (Kp.setRow _ r (cu.toArray.toList.take (j * 3) ++ g.cells ++ cu.toArray.toList.drop (j * 3 + g.cells.length)).toArray) (fun i _ e => e))
          generalize (cu.toArray.toList.take (j * 3) ++ g.cells ++ cu.toArray.toList.drop (j * 3 + g.cells.length)).toArray = X at *
          clear hS hS2 hSb hbx CF hkW hkp kA
          go_wp2_with (at_builtin; refine wpList_append_run _ rfl _ _ 34 34 rfl _ _ rfl rfl _ _ HRUN.out ?_)
          exact ⟨⟨k + 1, j + 1, _, by omega, rfl, by go_num, HADD, HKK.out⟩, by simp [intOf]; omega⟩
        · rw [hp] at CF
          have HP := hide hp
          clear hp
          go_wp2_with fail
          refine CF.mono ?_; rintro e W ⟨rfl, hkW⟩
          have HADD := hide (((hS.out.keep (Kp.alloc wr _ Nu)).keep hkW).skip HG.out HP.out)
          have HKK := hide (kA.andNu hkW)
          clear hS CF hkW hkp kA
          go_wp2
          exact ⟨⟨k + 1, j, _, by omega, rfl, by go_num, HADD, HKK.out⟩, by simp [intOf]; omega⟩
      · have hge : ¬ (k : Int) < (M : Int) := by omega
        obtain rfl : k = M := by omega
        obtain ⟨hrow, hcl, hcn, hhd, _⟩ := hS.out
        have eL : L.take k = L := List.take_of_length_le (by rw [HM.out]; omega)
        rw [eL] at hcn hhd
        clear eL
        obtain rfl : j = J := by have := HJ.out; omega
        have hJ0 := HJM.out
        have hJI : (j : Int) ≤ (k : Int) := by omega
        have hj0 : (0 : Int) ≤ (j : Int) := by omega
        have hbk : wr.heap[b]? = w'.heap[b]? := hkp.block b (blk_lt HH.out.blk) (fun e => hrb e.symm)
        have hb2 := hbk.trans HH.out.blk
        have hcM := HcM.out
        by_cases hjk : j < k
        · obtain ⟨cu', hrun, hl', ht'⟩ := clear38 (W := wr) (r := r) (cap := cap) (j := j) (n := k - j) (cp := cap - j) hrow hcl (by omega) (by omega) 0
          have hrow' := setRow_heap wr r _ cu'.toArray 38 _ hrow
          have hb3 : (wr.setRow r cu'.toArray).heap[b]? = some (.cells (nblk room v bm c) 77 (0, 0)) := (setRow_other wr r b _ (fun e => hrb e.symm)).trans hb2
          have hSF := HH.out.sifted HV.out (hkp.trans (Kp.setRow wr r cu'.toArray) (fun i _ e => e)) hrow' hl' HC.out hcn (ht'.trans hhd) (by omega) ((k : Int) - (j : Int))
          have HSF := hide hSF
          have k1 : wr.cell? ⟨b, 1, none⟩ = some (.slice (some ⟨r, 0, none⟩) k cap) := by
            have := HV.out
            rw [HM.out] at this
            simp [World.cell?, hb2, nblk, this]
          have k2 : (wr.setRow r cu'.toArray).cell? ⟨b, 1, none⟩ = some v := by simp [World.cell?, hb3, nblk]
          have k3 : (wr.setRow r cu'.toArray).cell? ⟨b, 7, none⟩ = some (.int .i64 c.x) := by simp [World.cell?, hb3, nblk]
          have k4 := free3 hb3 1
          have k5 := free3 hb3 7
          have hcl0 : ∀ ty, (Builtin.clear_ #[34] ty #[.slice (some ⟨r, j * 3, none⟩) (k - j) (cap - j)]).run Try.prog wr = .ok (.tuple #[]) (wr.setRow r cu'.toArray) := fun ty => hrun
          clear hSF hrow' hb2 hb3 hbk hrow hcl hcn hhd hS hrun c1 ht' hl'
          generalize wr.setRow r cu'.toArray = W1 at *
          go_wp2
          go_ret
          exact ⟨rfl, _, HSF.out.1, HSF.out.2⟩
        · obtain rfl : j = k := by omega
          have hSF := HH.out.sifted HV.out hkp hrow hcl HC.out hcn hhd (by omega) 0
          have HSF := hide hSF
          have k1 : wr.cell? ⟨b, 1, none⟩ = some (.slice (some ⟨r, 0, none⟩) j cap) := by
            have := HV.out
            rw [HM.out] at this
            simp [World.cell?, hb2, nblk, this]
          have k3 : wr.cell? ⟨b, 7, none⟩ = some (.int .i64 c.x) := by simp [World.cell?, hb2, nblk]
          have k4 := free3 hb2 1
          have k5 := free3 hb2 7
          have hcl0 : ∀ ty a cp, (Builtin.clear_ #[34] ty #[.slice (some a) 0 cp]).run Try.prog wr = .ok (.tuple #[]) wr := fun ty a cp => by simp [Builtin.clear_, run_underlying Try.underlying34, Result.andThen]
          clear hSF hb2 hbk hrow hcl hcn hhd hS c1
          by_cases hcap : cap = j
          · subst hcap
            go_wp2
            go_ret
            exact ⟨rfl, _, by simpa using HSF.out.1, by simpa using HSF.out.2⟩
          · have hcap2 : j < cap := by omega
            go_wp2
            go_ret
            exact ⟨rfl, _, by simpa using HSF.out.1, by simpa using HSF.out.2⟩

set_option maxRecDepth 100000 in
set_option maxHeartbeats 1000000 in
theorem takeOut_64 (h : Nt B w b bm nb room D v c L) (b1 b2 : Nat) (p : Nat → Gm → Bool) (hx0 : 0 ≤ c.x) (hx1 : c.x < 4611686018427387000)
    (hF : ∀ W, Kp (fun i => some i = v.ownBlock) w W → ∀ (k : Nat) (g : Gm), L[k]? = some g → Calls Try.prog 64 #[.int .i64 (k : Int), .agg #[.int .u8 g.f, .int .u8 g.t, g.d], .pointer (some ⟨b1, 0, none⟩), .pointer (some ⟨b2, 0, none⟩)] W fun e W' => e = .returned (.bool (p k g)) ∧ Kp Nu W W') :
    Calls Try.prog 44 #[.pointer (some ⟨b, 0, none⟩), .func (.func 64) #[] #[.pointer (some ⟨b1, 0, none⟩), .pointer (some ⟨b2, 0, none⟩)]] w fun e w' => e = .returned (.int .i64 ((L.length : Int) - ((sift p 0 L).length : Int))) ∧ ∃ v', Nt B w' b bm nb room D v' { c with x := c.x + ((L.length : Int) - ((sift p 0 L).length : Int)) } (sift p 0 L) ∧ Fr b bm v w w' v' := by
  have MA := made_any h
  rcases h.own.2 with ⟨hv0, h0⟩ | ⟨r, cap, cur, hv, hB, hg, h1, h2, h3, h4⟩
  · have hL : L = [] := List.eq_nil_of_length_eq_zero h0
    subst hL hv0
    have c1 := h.c1
    have c7 := h.c7
    have f1 := free3 h.blk 1
    have f7 := free3 h.blk 7
    have hcl : ∀ ty W, (Builtin.clear_ #[34] ty #[.slice none 0 0]).run Try.prog W = .ok (.tuple #[]) W := fun ty W => by simp [Builtin.clear_, run_underlying Try.underlying34, Result.andThen]
    have e0 : sift p 0 [] = [] := rfl
    have hN : Nt B ((w.setCell ⟨b, 1, none⟩ (.slice none 0 0)).setCell ⟨b, 7, none⟩ (.int .i64 c.x)) b bm nb room D (.slice none 0 0) c [] := (h.set 1 _ rfl).set 7 _ rfl
    have hFr : Fr b bm (.slice none 0 0) w ((w.setCell ⟨b, 1, none⟩ (.slice none 0 0)).setCell ⟨b, 7, none⟩ (.int .i64 c.x)) (.slice none 0 0) := ((Fr.refl _ _ _ _).set _ _).set _ _
    have HN := hide hN
    have HFr := hide hFr
    have HX : Hid (c = { c with x := c.x + (([] : List Gm).length - (([] : List Gm).length : Int)) }) := by
      show c = _
      cases c; simp
    rw [e0, ← HX.out]
    clear h hN hFr hF
    go_enter Try.func44, Try.ntmps44
    go_wp2_with fail
    refine MA.mono ?_; rintro e w' ⟨rfl, rfl⟩
    go_wp2
    go_loopw [5, 22] (fun u i wr => u = .slice none 0 0 ∧ i = .int .i64 0 ∧ wr = w') (fun _ _ _ => 0)
    case atStart => exact ⟨rfl, rfl, rfl⟩
    case round =>
      obtain ⟨rfl, rfl, hwr⟩ := hrel
      obtain rfl := hwr.symm
      go_wp2
      go_ret
      exact ⟨rfl, _, HN.out, HFr.out⟩
  · have HH := hide h
    have c1 := h.c1
    rw [hv] at c1
    have hM4 : L.length ≤ 4096 := by have := h.len; have := h.r1; omega
    have hrb : r ≠ b := (h.ne_own (g := r) (by rw [hv]; rfl)).1
    have hob : v.ownBlock = some r := by rw [hv]; rfl
    obtain ⟨M, hM⟩ : ∃ M, L.length = M := ⟨_, rfl⟩
    have HM := hide hM
    have hv' := hv
    rw [hM] at c1 hM4 hv' h1
    have HM4 := hide hM4
    have HV := hide hv
    have hlen4 : (M : Int) ≤ 4096 := by omega
    have hSt : St w r cap 0 0 p L cur.toList := St.start (by simpa using hg) (by simpa using h3) h4
    have HSt := hide hSt
    have HC := hide h2
    have HcM : Hid (M ≤ cap) := h1
    obtain ⟨i0, hi, hz0, hz1, hz2⟩ := info_parts info38
    rw [hob] at hF
    have HF := hide hF
    rw [hM]
    obtain ⟨J, hJ⟩ : ∃ J, (sift p 0 L).length = J := ⟨_, rfl⟩
    have HJ := hide hJ
    have HJM : Hid (J ≤ M) := by have := sift_length_le p L 0; show _ ≤ _; omega
    rw [hJ]
    clear h hM hM4 hv h2 h3 h4 hg h1 hv' hSt hF hJ
    go_enter Try.func44, Try.ntmps44
    go_wp2_with fail
    refine MA.mono ?_; rintro e w' ⟨rfl, rfl⟩
    clear MA
    go_wp2_with fail
    go_loopw [5, 22] (fun u i wr => ∃ (k j : Nat) (cu : List Value), k ≤ M ∧ u = .slice (some ⟨r, 0, none⟩) j cap ∧ i = .int .i64 (k : Int) ∧ Hid (St wr r cap k j p L cu) ∧ Kp (fun i => i = r) w' wr) (fun _ i _ => M - (intOf i).toNat)
    case atStart => exact ⟨0, 0, _, by omega, rfl, rfl, HSt, Kp.refl _ _⟩
    case round =>
      obtain ⟨k, j, cu, hk, rfl, rfl, hS, hkp⟩ := hrel
      by_cases hlt : k < M
      · have hkL : k < L.length := by rw [HM.out]; exact hlt
        obtain ⟨g, hg⟩ : ∃ g, L[k]? = some g := ⟨_, List.getElem?_eq_getElem hkL⟩
        obtain ⟨e0, e1, e2⟩ := hS.out.at hg
        have hD := HH.out.dat g (List.mem_of_getElem? hg)
        obtain ⟨k0, cap0, hgd⟩ := hD.slice
        have kA := hkp.andAlloc (.cells #[.int .u8 g.f, .int .u8 g.t, g.d] 38)
        have CF := HF.out _ (kA.mono (fun i _ e => by rw [e])) k g hg
        have hcp : k < cap := by have := HcM.out; omega
        have HG := hide hg
        have hltI : (k : Int) < (M : Int) := by omega
        have hk0 : (0 : Int) ≤ (k : Int) := by omega
        have hk4 : (k : Int) < 4096 := by omega
        obtain ⟨N, hN⟩ : ∃ N, g.ys.length = N := ⟨_, rfl⟩
        rw [hN] at hgd
        have HGD := hide hgd
        rw [hgd] at e2 CF kA
        clear hg hD hkL hgd hN c1
        cases hp : p k g
        · rw [hp] at CF
          have HP := hide hp
          clear hp
          go_wp2_with fail
          refine CF.mono ?_; rintro e W ⟨rfl, hkW⟩
          have hS2 := (hS.out.keep (Kp.alloc wr _ Nu)).keep hkW
          have hjk := hS2.le
          have hbx := new_at wr _ hkW
          obtain ⟨x0, x1, x2⟩ := cell3 hbx
          have hSb := hS2.keep (Kp.alloc W (.cells #[.int .u8 g.f, .int .u8 g.t, .slice (some ⟨k0, 0, none⟩) N cap0] 38) Nu)
          have HRUN := hide (run_append_room (P := Try.prog) (W.alloc (.cells #[.int .u8 g.f, .int .u8 g.t, .slice (some ⟨k0, 0, none⟩) N cap0] 38)) 34 34 38 i0 Try.underlying34 hi r j cap cu.toArray hSb.row ⟨W.heap.size, 0, none⟩ 1 1 g.cells (by rw [hz1]; rfl) (by
            intro q u hq
            rw [Addr.add_lit]
            have := heap_alloc_new W (.cells #[.int .u8 g.f, .int .u8 g.t, .slice (some ⟨k0, 0, none⟩) N cap0] 38)
            simp only [World.cell?, this]
            simpa [Gm.cells, HGD.out] using hq) (by
            intro u hu
            simp only [Gm.cells, List.mem_cons, List.not_mem_nil, or_false] at hu
            rcases hu with rfl | rfl | rfl
            · rfl
            · rfl
            · rw [HGD.out]; rfl) (by omega) (by
            have := hSb.len
            rw [hz1]
            simp [Gm.cells]
            omega))
          have HADD : Hid (St _ r cap (k + 1) (j + 1) p L _) := hSb.add HG.out HP.out hcp
          rw [hz1] at HRUN
          have HKK := hide (((kA.andNu hkW).andAlloc (.cells #[.int .u8 g.f, .int .u8 g.t, .slice (some ⟨k0, 0, none⟩) N cap0] 38)).trans (Kp.setRow _ r (cu.toArray.toList.take (j * 3) ++ g.cells ++ cu.toArray.toList.drop (j * 3 + g.cells.length)).toArray) (fun i _ e => e))
          generalize (cu.toArray.toList.take (j * 3) ++ g.cells ++ cu.toArray.toList.drop (j * 3 + g.cells.length)).toArray = X at *
          clear hS hS2 hSb hbx CF hkW hkp kA
          go_wp2_with (at_builtin; refine wpList_append_run _ rfl _ _ 34 34 rfl _ _ rfl rfl _ _ HRUN.out ?_)
          exact ⟨⟨k + 1, j + 1, _, by omega, rfl, by go_num, HADD, HKK.out⟩, by simp [intOf]; omega⟩
        · rw [hp] at CF
          have HP := hide hp
          clear hp
          go_wp2_with fail
          refine CF.mono ?_; rintro e W ⟨rfl, hkW⟩
          have HADD := hide (((hS.out.keep (Kp.alloc wr _ Nu)).keep hkW).skip HG.out HP.out)
          have HKK := hide (kA.andNu hkW)
          clear hS CF hkW hkp kA
          go_wp2
          exact ⟨⟨k + 1, j, _, by omega, rfl, by go_num, HADD, HKK.out⟩, by simp [intOf]; omega⟩
      · have hge : ¬ (k : Int) < (M : Int) := by omega
        obtain rfl : k = M := by omega
        obtain ⟨hrow, hcl, hcn, hhd, _⟩ := hS.out
        have eL : L.take k = L := List.take_of_length_le (by rw [HM.out]; omega)
        rw [eL] at hcn hhd
        clear eL
        obtain rfl : j = J := by have := HJ.out; omega
        have hJ0 := HJM.out
        have hJI : (j : Int) ≤ (k : Int) := by omega
        have hj0 : (0 : Int) ≤ (j : Int) := by omega
        have hbk : wr.heap[b]? = w'.heap[b]? := hkp.block b (blk_lt HH.out.blk) (fun e => hrb e.symm)
        have hb2 := hbk.trans HH.out.blk
        have hcM := HcM.out
        by_cases hjk : j < k
        · obtain ⟨cu', hrun, hl', ht'⟩ := clear38 (W := wr) (r := r) (cap := cap) (j := j) (n := k - j) (cp := cap - j) hrow hcl (by omega) (by omega) 0
          have hrow' := setRow_heap wr r _ cu'.toArray 38 _ hrow
          have hb3 : (wr.setRow r cu'.toArray).heap[b]? = some (.cells (nblk room v bm c) 77 (0, 0)) := (setRow_other wr r b _ (fun e => hrb e.symm)).trans hb2
          have hSF := HH.out.sifted HV.out (hkp.trans (Kp.setRow wr r cu'.toArray) (fun i _ e => e)) hrow' hl' HC.out hcn (ht'.trans hhd) (by omega) ((k : Int) - (j : Int))
          have HSF := hide hSF
          have k1 : wr.cell? ⟨b, 1, none⟩ = some (.slice (some ⟨r, 0, none⟩) k cap) := by
            have := HV.out
            rw [HM.out] at this
            simp [World.cell?, hb2, nblk, this]
          have k2 : (wr.setRow r cu'.toArray).cell? ⟨b, 1, none⟩ = some v := by simp [World.cell?, hb3, nblk]
          have k3 : (wr.setRow r cu'.toArray).cell? ⟨b, 7, none⟩ = some (.int .i64 c.x) := by simp [World.cell?, hb3, nblk]
          have k4 := free3 hb3 1
          have k5 := free3 hb3 7
          have hcl0 : ∀ ty, (Builtin.clear_ #[34] ty #[.slice (some ⟨r, j * 3, none⟩) (k - j) (cap - j)]).run Try.prog wr = .ok (.tuple #[]) (wr.setRow r cu'.toArray) := fun ty => hrun
          clear hSF hrow' hb2 hb3 hbk hrow hcl hcn hhd hS hrun c1 ht' hl'
          generalize wr.setRow r cu'.toArray = W1 at *
          go_wp2
          go_ret
          exact ⟨rfl, _, HSF.out.1, HSF.out.2⟩
        · obtain rfl : j = k := by omega
          have hSF := HH.out.sifted HV.out hkp hrow hcl HC.out hcn hhd (by omega) 0
          have HSF := hide hSF
          have k1 : wr.cell? ⟨b, 1, none⟩ = some (.slice (some ⟨r, 0, none⟩) j cap) := by
            have := HV.out
            rw [HM.out] at this
            simp [World.cell?, hb2, nblk, this]
          have k3 : wr.cell? ⟨b, 7, none⟩ = some (.int .i64 c.x) := by simp [World.cell?, hb2, nblk]
          have k4 := free3 hb2 1
          have k5 := free3 hb2 7
          have hcl0 : ∀ ty a cp, (Builtin.clear_ #[34] ty #[.slice (some a) 0 cp]).run Try.prog wr = .ok (.tuple #[]) wr := fun ty a cp => by simp [Builtin.clear_, run_underlying Try.underlying34, Result.andThen]
          clear hSF hb2 hbk hrow hcl hcn hhd hS c1
          by_cases hcap : cap = j
          · subst hcap
            go_wp2
            go_ret
            exact ⟨rfl, _, by simpa using HSF.out.1, by simpa using HSF.out.2⟩
          · have hcap2 : j < cap := by omega
            go_wp2
            go_ret
            exact ⟨rfl, _, by simpa using HSF.out.1, by simpa using HSF.out.2⟩

set_option maxRecDepth 100000 in
set_option maxHeartbeats 1000000 in
theorem takeOut_52 (h : Nt B w b bm nb room D v c L) (p : Nat → Gm → Bool) (hx0 : 0 ≤ c.x) (hx1 : c.x < 4611686018427387000)
    (hF : ∀ W, Kp (fun i => some i = v.ownBlock) w W → ∀ (k : Nat) (g : Gm), L[k]? = some g → Calls Try.prog 52 #[.int .i64 (k : Int), .agg #[.int .u8 g.f, .int .u8 g.t, g.d]] W fun e W' => e = .returned (.bool (p k g)) ∧ Kp Nu W W') :
    Calls Try.prog 44 #[.pointer (some ⟨b, 0, none⟩), .func (.func 52) #[] #[]] w fun e w' => e = .returned (.int .i64 ((L.length : Int) - ((sift p 0 L).length : Int))) ∧ ∃ v', Nt B w' b bm nb room D v' { c with x := c.x + ((L.length : Int) - ((sift p 0 L).length : Int)) } (sift p 0 L) ∧ Fr b bm v w w' v' := by
  have MA := made_any h
  rcases h.own.2 with ⟨hv0, h0⟩ | ⟨r, cap, cur, hv, hB, hg, h1, h2, h3, h4⟩
  · have hL : L = [] := List.eq_nil_of_length_eq_zero h0
    subst hL hv0
    have c1 := h.c1
    have c7 := h.c7
    have f1 := free3 h.blk 1
    have f7 := free3 h.blk 7
    have hcl : ∀ ty W, (Builtin.clear_ #[34] ty #[.slice none 0 0]).run Try.prog W = .ok (.tuple #[]) W := fun ty W => by simp [Builtin.clear_, run_underlying Try.underlying34, Result.andThen]
    have e0 : sift p 0 [] = [] := rfl
    have hN : Nt B ((w.setCell ⟨b, 1, none⟩ (.slice none 0 0)).setCell ⟨b, 7, none⟩ (.int .i64 c.x)) b bm nb room D (.slice none 0 0) c [] := (h.set 1 _ rfl).set 7 _ rfl
    have hFr : Fr b bm (.slice none 0 0) w ((w.setCell ⟨b, 1, none⟩ (.slice none 0 0)).setCell ⟨b, 7, none⟩ (.int .i64 c.x)) (.slice none 0 0) := ((Fr.refl _ _ _ _).set _ _).set _ _
    have HN := hide hN
    have HFr := hide hFr
    have HX : Hid (c = { c with x := c.x + (([] : List Gm).length - (([] : List Gm).length : Int)) }) := by
      show c = _
      cases c; simp
    rw [e0, ← HX.out]
    clear h hN hFr hF
    go_enter Try.func44, Try.ntmps44
    go_wp2_with fail
    refine MA.mono ?_; rintro e w' ⟨rfl, rfl⟩
    go_wp2
    go_loopw [5, 22] (fun u i wr => u = .slice none 0 0 ∧ i = .int .i64 0 ∧ wr = w') (fun _ _ _ => 0)
    case atStart => exact ⟨rfl, rfl, rfl⟩
    case round =>
      obtain ⟨rfl, rfl, hwr⟩ := hrel
      obtain rfl := hwr.symm
      go_wp2
      go_ret
      exact ⟨rfl, _, HN.out, HFr.out⟩
  · have HH := hide h
    have c1 := h.c1
    rw [hv] at c1
    have hM4 : L.length ≤ 4096 := by have := h.len; have := h.r1; omega
    have hrb : r ≠ b := (h.ne_own (g := r) (by rw [hv]; rfl)).1
    have hob : v.ownBlock = some r := by rw [hv]; rfl
    obtain ⟨M, hM⟩ : ∃ M, L.length = M := ⟨_, rfl⟩
    have HM := hide hM
    have hv' := hv
    rw [hM] at c1 hM4 hv' h1
    have HM4 := hide hM4
    have HV := hide hv
    have hlen4 : (M : Int) ≤ 4096 := by omega
    have hSt : St w r cap 0 0 p L cur.toList := St.start (by simpa using hg) (by simpa using h3) h4
    have HSt := hide hSt
    have HC := hide h2
    have HcM : Hid (M ≤ cap) := h1
    obtain ⟨i0, hi, hz0, hz1, hz2⟩ := info_parts info38
    rw [hob] at hF
    have HF := hide hF
    rw [hM]
    obtain ⟨J, hJ⟩ : ∃ J, (sift p 0 L).length = J := ⟨_, rfl⟩
    have HJ := hide hJ
    have HJM : Hid (J ≤ M) := by have := sift_length_le p L 0; show _ ≤ _; omega
    rw [hJ]
    clear h hM hM4 hv h2 h3 h4 hg h1 hv' hSt hF hJ
    go_enter Try.func44, Try.ntmps44
    go_wp2_with fail
    refine MA.mono ?_; rintro e w' ⟨rfl, rfl⟩
    clear MA
    go_wp2_with fail
    go_loopw [5, 22] (fun u i wr => ∃ (k j : Nat) (cu : List Value), k ≤ M ∧ u = .slice (some ⟨r, 0, none⟩) j cap ∧ i = .int .i64 (k : Int) ∧ Hid (St wr r cap k j p L cu) ∧ Kp (fun i => i = r) w' wr) (fun _ i _ => M - (intOf i).toNat)
    case atStart => exact ⟨0, 0, _, by omega, rfl, rfl, HSt, Kp.refl _ _⟩
    case round =>
      obtain ⟨k, j, cu, hk, rfl, rfl, hS, hkp⟩ := hrel
      by_cases hlt : k < M
      · have hkL : k < L.length := by rw [HM.out]; exact hlt
        obtain ⟨g, hg⟩ : ∃ g, L[k]? = some g := ⟨_, List.getElem?_eq_getElem hkL⟩
        obtain ⟨e0, e1, e2⟩ := hS.out.at hg
        have hD := HH.out.dat g (List.mem_of_getElem? hg)
        obtain ⟨k0, cap0, hgd⟩ := hD.slice
        have kA := hkp.andAlloc (.cells #[.int .u8 g.f, .int .u8 g.t, g.d] 38)
        have CF := HF.out _ (kA.mono (fun i _ e => by rw [e])) k g hg
        have hcp : k < cap := by have := HcM.out; omega
        have HG := hide hg
        have hltI : (k : Int) < (M : Int) := by omega
        have hk0 : (0 : Int) ≤ (k : Int) := by omega
        have hk4 : (k : Int) < 4096 := by omega
        obtain ⟨N, hN⟩ : ∃ N, g.ys.length = N := ⟨_, rfl⟩
        rw [hN] at hgd
        have HGD := hide hgd
        rw [hgd] at e2 CF kA
        clear hg hD hkL hgd hN c1
        cases hp : p k g
        · rw [hp] at CF
          have HP := hide hp
          clear hp
          go_wp2_with fail
          refine CF.mono ?_; rintro e W ⟨rfl, hkW⟩
          have hS2 := (hS.out.keep (Kp.alloc wr _ Nu)).keep hkW
          have hjk := hS2.le
          have hbx := new_at wr _ hkW
          obtain ⟨x0, x1, x2⟩ := cell3 hbx
          have hSb := hS2.keep (Kp.alloc W (.cells #[.int .u8 g.f, .int .u8 g.t, .slice (some ⟨k0, 0, none⟩) N cap0] 38) Nu)
          have HRUN := hide (run_append_room (P := Try.prog) (W.alloc (.cells #[.int .u8 g.f, .int .u8 g.t, .slice (some ⟨k0, 0, none⟩) N cap0] 38)) 34 34 38 i0 Try.underlying34 hi r j cap cu.toArray hSb.row ⟨W.heap.size, 0, none⟩ 1 1 g.cells (by rw [hz1]; rfl) (by
            intro q u hq
            rw [Addr.add_lit]
            have := heap_alloc_new W (.cells #[.int .u8 g.f, .int .u8 g.t, .slice (some ⟨k0, 0, none⟩) N cap0] 38)
            simp only [World.cell?, this]
            simpa [Gm.cells, HGD.out] using hq) (by
            intro u hu
            simp only [Gm.cells, List.mem_cons, List.not_mem_nil, or_false] at hu
            rcases hu with rfl | rfl | rfl
            · rfl
            · rfl
            · rw [HGD.out]; rfl) (by omega) (by
            have := hSb.len
            rw [hz1]
            simp [Gm.cells]
            omega))
          have HADD : Hid (St _ r cap (k + 1) (j + 1) p L _) := hSb.add HG.out HP.out hcp
          rw [hz1] at HRUN
          have HKK := hide (((kA.andNu hkW).andAlloc (.cells #[.int .u8 g.f, .int .u8 g.t, .slice (some ⟨k0, 0, none⟩) N cap0] 38)).trans (Kp.setRow _ r (cu.toArray.toList.take (j * 3) ++ g.cells ++ cu.toArray.toList.drop (j * 3 + g.cells.length)).toArray) (fun i _ e => e))
          generalize (cu.toArray.toList.take (j * 3) ++ g.cells ++ cu.toArray.toList.drop (j * 3 + g.cells.length)).toArray = X at *
          clear hS hS2 hSb hbx CF hkW hkp kA
          go_wp2_with (at_builtin; refine wpList_append_run _ rfl _ _ 34 34 rfl _ _ rfl rfl _ _ HRUN.out ?_)
          exact ⟨⟨k + 1, j + 1, _, by omega, rfl, by go_num, HADD, HKK.out⟩, by simp [intOf]; omega⟩
        · rw [hp] at CF
          have HP := hide hp
          clear hp
          go_wp2_with fail
          refine CF.mono ?_; rintro e W ⟨rfl, hkW⟩
          have HADD := hide (((hS.out.keep (Kp.alloc wr _ Nu)).keep hkW).skip HG.out HP.out)
          have HKK := hide (kA.andNu hkW)
          clear hS CF hkW hkp kA
          go_wp2
          exact ⟨⟨k + 1, j, _, by omega, rfl, by go_num, HADD, HKK.out⟩, by simp [intOf]; omega⟩
      · have hge : ¬ (k : Int) < (M : Int) := by omega
        obtain rfl : k = M := by omega
        obtain ⟨hrow, hcl, hcn, hhd, _⟩ := hS.out
        have eL : L.take k = L := List.take_of_length_le (by rw [HM.out]; omega)
        rw [eL] at hcn hhd
        clear eL
        obtain rfl : j = J := by have := HJ.out; omega
        have hJ0 := HJM.out
        have hJI : (j : Int) ≤ (k : Int) := by omega
        have hj0 : (0 : Int) ≤ (j : Int) := by omega
        have hbk : wr.heap[b]? = w'.heap[b]? := hkp.block b (blk_lt HH.out.blk) (fun e => hrb e.symm)
        have hb2 := hbk.trans HH.out.blk
        have hcM := HcM.out
        by_cases hjk : j < k
        · obtain ⟨cu', hrun, hl', ht'⟩ := clear38 (W := wr) (r := r) (cap := cap) (j := j) (n := k - j) (cp := cap - j) hrow hcl (by omega) (by omega) 0
          have hrow' := setRow_heap wr r _ cu'.toArray 38 _ hrow
          have hb3 : (wr.setRow r cu'.toArray).heap[b]? = some (.cells (nblk room v bm c) 77 (0, 0)) := (setRow_other wr r b _ (fun e => hrb e.symm)).trans hb2
          have hSF := HH.out.sifted HV.out (hkp.trans (Kp.setRow wr r cu'.toArray) (fun i _ e => e)) hrow' hl' HC.out hcn (ht'.trans hhd) (by omega) ((k : Int) - (j : Int))
          have HSF := hide hSF
          have k1 : wr.cell? ⟨b, 1, none⟩ = some (.slice (some ⟨r, 0, none⟩) k cap) := by
            have := HV.out
            rw [HM.out] at this
            simp [World.cell?, hb2, nblk, this]
          have k2 : (wr.setRow r cu'.toArray).cell? ⟨b, 1, none⟩ = some v := by simp [World.cell?, hb3, nblk]
          have k3 : (wr.setRow r cu'.toArray).cell? ⟨b, 7, none⟩ = some (.int .i64 c.x) := by simp [World.cell?, hb3, nblk]
          have k4 := free3 hb3 1
          have k5 := free3 hb3 7
          have hcl0 : ∀ ty, (Builtin.clear_ #[34] ty #[.slice (some ⟨r, j * 3, none⟩) (k - j) (cap - j)]).run Try.prog wr = .ok (.tuple #[]) (wr.setRow r cu'.toArray) := fun ty => hrun
          clear hSF hrow' hb2 hb3 hbk hrow hcl hcn hhd hS hrun c1 ht' hl'
          generalize wr.setRow r cu'.toArray = W1 at *
          go_wp2
          go_ret
          exact ⟨rfl, _, HSF.out.1, HSF.out.2⟩
        · obtain rfl : j = k := by omega
          have hSF := HH.out.sifted HV.out hkp hrow hcl HC.out hcn hhd (by omega) 0
          have HSF := hide hSF
          have k1 : wr.cell? ⟨b, 1, none⟩ = some (.slice (some ⟨r, 0, none⟩) j cap) := by
            have := HV.out
            rw [HM.out] at this
            simp [World.cell?, hb2, nblk, this]
          have k3 : wr.cell? ⟨b, 7, none⟩ = some (.int .i64 c.x) := by simp [World.cell?, hb2, nblk]
          have k4 := free3 hb2 1
          have k5 := free3 hb2 7
          have hcl0 : ∀ ty a cp, (Builtin.clear_ #[34] ty #[.slice (some a) 0 cp]).run Try.prog wr = .ok (.tuple #[]) wr := fun ty a cp => by simp [Builtin.clear_, run_underlying Try.underlying34, Result.andThen]
          clear hSF hb2 hbk hrow hcl hcn hhd hS c1
          by_cases hcap : cap = j
          · subst hcap
            go_wp2
            go_ret
            exact ⟨rfl, _, by simpa using HSF.out.1, by simpa using HSF.out.2⟩
          · have hcap2 : j < cap := by omega
            go_wp2
            go_ret
            exact ⟨rfl, _, by simpa using HSF.out.1, by simpa using HSF.out.2⟩

end
end Go.Proofs.Ythajboipnjjgfaa.Ly
