import Derived.Test.YtbifmcadllilhaaPdA
import Derived.Test.YtbifmcadllilhaaPdB
namespace Go.Proofs.Ytbifmcadllilhaa.Rg
open Go.RowKit Go.Shelf Go.Sort
open Go.Proofs.Ytbifmcadllilhaa.It
set_option linter.unusedVariables false
theorem Ris.lt {o : List Int} (h : Ris o) : ∀ (d i : Nat) x y, o[i]? = some x → o[i + d + 1]? = some y → x < y
  | 0, i, x, y, hx, hy => h i x y hx hy
  | d + 1, i, x, y, hx, hy => by
    obtain ⟨z, hz⟩ : ∃ z, o[i + d + 1]? = some z := ⟨_, List.getElem?_eq_getElem (by have := (List.getElem?_eq_some_iff.1 hy).1; omega)⟩
    have h1 := Ris.lt h d i x z hx hz
    have h2 := h (i + d + 1) z y hz hy
    omega
theorem Ris.le {o : List Int} (h : Ris o) {i j : Nat} {x y : Int} (hij : i ≤ j) (hx : o[i]? = some x) (hy : o[j]? = some y) : x ≤ y := by
  rcases Nat.lt_or_ge i j with hl | hl
  · obtain ⟨d, rfl⟩ : ∃ d, j = i + d + 1 := ⟨j - i - 1, by omega⟩
    have := h.lt d i x y hx hy
    omega
  · obtain rfl : i = j := by omega
    rw [hx] at hy
    cases hy
    exact Int.le_refl _
theorem own_dn {w : World} {B e size n : Nat} {v : Value} {xs : List Value} (h : w.ownsRow B e size v n xs) (q : Nat) : (w.drewN q).ownsRow B e size v n xs := h
theorem box2 {w w1 : World} {b : Nat} {c : Array Value} {ty : TypeId} (h : w.heap[b]? = some (.cells c ty (0, 0))) (k : Kp Nu w w1) : w1.heap[b]? = some (.cells c ty (0, 0)) := (k.block b (blk_lt h) (fun h => h)).trans h
set_option maxRecDepth 100000 in
set_option maxHeartbeats 2000000 in
theorem owners45 (w : World) (lim : Int) (v : Value) (L : List Sg) (hv : Rs w v L) (tab : Tab L) (hL : L.length ≤ 8192) (u : Value) (ks : List Int) (hu : Us w u ks) (hr : Ris ks) (hk : ∀ x ∈ ks, 0 ≤ x ∧ x < 18446744073709551616) (hlen : ks.length * 8 ≤ 140737488351232) :
    Calls Try.prog 45 #[.agg #[.int .i64 lim, v], u] w fun e w' => ∃ oa oc, e = .returned (.slice oa ks.length oc) ∧ w'.ownsRow w.heap.size 3 1 (.slice oa ks.length oc) ks.length (Pn.ics (ks.map (ow L))) ∧ Kp Nu w w' := by
  have mixed : Try.prog.follows .mixedOrders = true := by kernel_rfl
  obtain ⟨i0, hiT, hz0, hz1, hz2⟩ := info_parts Pn.info3z
  obtain ⟨r, off, cpv, ev, hcell⟩ := id hv
  obtain ⟨a1, c1, rfl, _, _⟩ := id hu
  obtain ⟨N, eN⟩ : ∃ N, ks.length = N := ⟨_, rfl⟩
  obtain ⟨Z, eZ⟩ : ∃ Z, L.length = Z := ⟨_, rfl⟩
  have HU := hide (And.intro hu (And.intro hr (And.intro hk (And.intro eN (And.intro eZ tab)))))
  have HC := hide hcell
  rw [eZ] at ev hL
  rw [eN] at hlen ⊢
  subst ev
  have hb0 : (w.alloc (.cells #[.int .i64 lim, .slice (some ⟨r, off, none⟩) Z cpv] 76)).heap[w.heap.size]? = some (.cells #[.int .i64 lim, .slice (some ⟨r, off, none⟩) Z cpv] 76 (0, 0)) := heap_alloc_new w _
  have HB := hide hb0
  have HK0 := hide (Kp.alloc w (.cells #[.int .i64 lim, .slice (some ⟨r, off, none⟩) Z cpv] 76) Nu)
  have hNI : (N : Int) ≤ 17592186043904 := by omega
  have hZI : (Z : Int) ≤ 8192 := by omega
  clear hu hr hk tab hv hcell eN eZ hb0
  go_enter Try.func45, Try.ntmps45
  go_wp2
  go_loopw [5, 6, 7] (fun ov pv jv wr => ∃ (j p : Nat) (oa : Option Addr) (oc : Nat), ov = .slice oa j oc ∧ pv = .int .i64 (p : Int) ∧ jv = .int .i64 (j : Int) ∧ j ≤ N ∧ Hid ((∀ m x, j ≤ m → ks[m]? = some x → p ≤ plc L x) ∧ wr.ownsRow (w.heap.size + 1) 3 1 (.slice oa j oc) j (Pn.ics ((ks.take j).map (ow L))) ∧ Kp Nu (w.alloc (.cells #[.int .i64 lim, .slice (some ⟨r, off, none⟩) Z cpv] 76)) wr)) (fun _ _ jv _ => N - (intOf jv).toNat)
  case atStart => exact ⟨0, 0, none, 0, rfl, rfl, rfl, Nat.zero_le _, hide ⟨fun _ _ _ _ => Nat.zero_le _, World.ownsRow_nil _ _ _ _, Kp.refl _ _⟩⟩
  case round =>
    obtain ⟨j, p, oa, oc, rfl, rfl, rfl, hj, hI⟩ := hrel
    have hj0 : (0 : Int) ≤ (j : Int) := by omega
    obtain ⟨wl, rfl⟩ : ∃ wl : World, wl = wr := ⟨_, rfl⟩
    by_cases hlt : j < N
    · have hltI : (j : Int) < (N : Int) := by omega
      obtain ⟨x, hx⟩ : ∃ x, ks[j]? = some x := ⟨_, List.getElem?_eq_getElem (by rw [HU.out.2.2.2.1]; exact hlt)⟩
      have etj : (j : Int).toNat = j := by omega
      have hxr := HU.out.2.2.1 x (List.mem_of_getElem? hx)
      obtain ⟨s, hs, _, _, hsh, hpl⟩ := plc_facts HU.out.2.2.2.2.2.cov hxr.1 hxr.2
      have hpx := hI.out.1 j x (Nat.le_refl _) hx
      obtain ⟨PX, ePX⟩ : ∃ PX, plc L x = PX := ⟨_, rfl⟩
      rw [ePX] at hs hpl hpx
      rw [HU.out.2.2.2.2.1] at hpl
      have HX := hide (And.intro hx (And.intro ePX (And.intro hs hsh)))
      clear hx ePX hs hsh hxr
      go_wp2
      go_loopw [6] (fun pv wr => ∃ p : Nat, pv = .int .i64 (p : Int) ∧ p ≤ PX ∧ Hid (Kp Nu wl wr)) (fun pv _ => PX - (intOf pv).toNat)
      case atStart => exact ⟨p, rfl, hpx, hide (Kp.refl _ _)⟩
      case round =>
        clear hpx
        obtain ⟨p, rfl, hpx, hk2⟩ := hrel
        have hp0 : (0 : Int) ≤ (p : Int) := by omega
        have hpZ : (p : Int) < (Z : Int) := by omega
        have x1 : decide ((p : Int) < (Z : Int)) = true := by simpa using hpZ
        obtain ⟨t, ht⟩ : ∃ t, L[p]? = some t := ⟨_, List.getElem?_eq_getElem (by rw [HU.out.2.2.2.2.1]; omega)⟩
        have kk := hI.out.2.2.andNu hk2.out
        have kw := HK0.out.andNu kk
        obtain ⟨b1, e1, k1⟩ := (HU.out.1.nu kw).at_ HX.out.1
        subst e1
        obtain ⟨d0, d1, d2⟩ := HC.out p t ht
        replace d1 := cell_nu d1 kw
        replace d2 := cell_nu d2 kw
        obtain ⟨y0, y1⟩ := cell2' (box2 HB.out kk)
        have etp : (p : Int).toNat = p := by omega
        have hiff := plc_iff (k := x) HU.out.2.2.2.2.2.cov p t ht
        rw [HX.out.2.1] at hiff
        have HT := hide (And.intro ht kk)
        clear kk kw d0
        by_cases hlt2 : t.hi < x
        · have x2 : decide (t.hi < x) = true := by simpa using hlt2
          have hq : p + 1 ≤ PX := by omega
          clear hiff
          go_wp2_with fail
          go_quiet (fail)
          go_wp2
          exact ⟨⟨p + 1, by go_num, hq, hide (hk2.out.andNu (kp_dn _ _))⟩, by simp [intOf]; omega⟩
        · have x2 : decide (t.hi < x) = false := by simpa using hlt2
          obtain rfl : PX = p := by omega
          have hth : t.h = ow L x := by
            have e := HX.out.2.2.1
            rw [HT.out.1] at e
            cases e
            exact HX.out.2.2.2
          obtain ⟨h, eh⟩ : ∃ h, t.h = h := ⟨_, rfl⟩
          have HH := hide (And.intro hth eh)
          have hb := HU.out.2.2.2.2.2.hs t (List.mem_of_getElem? HT.out.1)
          rw [eh] at hb d2
          have hb1 := hb.1
          have hb2 := hb.2
          have ec : IntKind.i64.wrap h = h := by rw [IntKind.wrap_i64]; omega
          have hown0 := own_keep hI.out.2.1 (fun g hg => hk2.out.block g (own_lt hI.out.2.1 hg) (fun h => h))
          have HO := hide (And.intro hown0 (hI.out.2.2.andNu hk2.out))
          clear hiff hth eh hb hown0
          go_wp2_with fail
          go_quiet (fail)
          go_wp2_with (at_builtin; refine unhid ?_)
          refine wpList_append_lies _ rfl _ _ 22 rfl (w.heap.size + 1) 3 i0 _ 1 8 Try.underlying22 hiT hz0 hz1 hz2 rfl (by decide) (.slice oa j oc) j (Pn.ics ((ks.take j).map (ow L))) rfl ((own_dn HO.out.1 _).alloc _) ⟨wr.heap.size, 0, none⟩ 1 1 [.int .i64 h] (by first | rfl | (simp; done)) rfl (World.news_of_block (Pn.heap_new _ _)) (by simp [Value.oneCell']) (by decide) (by unfold maxLen; omega) (by omega) (by have := HO.out.2.size; simp at this ⊢; omega) _ rfl ?_
          intro g3 cap3 w3 hown3 hgrow3 hat3 hlt3
          have HF : Hid (w3.ownsRow (w.heap.size + 1) 3 1 (.slice (some ⟨g3, 0, none⟩) (j + 1) cap3) (j + 1) (Pn.ics ((ks.take (j + 1)).map (ow L))) ∧ Kp Nu (w.alloc (.cells #[.int .i64 lim, .slice (some ⟨r, off, none⟩) Z cpv] 76)) w3) := hide ⟨by
            rw [List.take_add_one, HX.out.1, Option.toList_some, List.map_append, List.map_cons, List.map_nil, Pn.ics_snoc, ← HH.out.1, HH.out.2]
            exact hown3, ((HO.out.2.andNu (kp_dn _ _)).andAlloc _).trans (Kp.of_grown hgrow3) (fun q hq e => by
              have := Pn.own_ge HO.out.1 e.symm
              simp at hq
              omega)⟩
          clear hown3 hgrow3 hat3 hlt3
          go_wp2
          refine ⟨⟨j + 1, PX, some ⟨g3, 0, none⟩, cap3, rfl, rfl, by go_num, by omega, hide ⟨fun m y hm hy => ?_, HF.out.1, HF.out.2⟩⟩, by simp [intOf]; omega⟩
          rw [← HX.out.2.1]
          exact plc_mono HU.out.2.2.2.2.2.cov (HU.out.2.1.le (by omega) HX.out.1 hy)
    · have hge : ¬ (j : Int) < (N : Int) := by omega
      obtain rfl : N = j := by omega
      go_wp2
      go_ret
      refine ⟨oa, oc, rfl, ?_, HK0.out.andNu hI.out.2.2⟩
      have q := own_base hI.out.2.1 (base' := w.heap.size) (by omega)
      rw [← HU.out.2.2.2.1, List.take_length] at q
      rw [HU.out.2.2.2.1] at q
      exact q
end Go.Proofs.Ytbifmcadllilhaa.Rg
