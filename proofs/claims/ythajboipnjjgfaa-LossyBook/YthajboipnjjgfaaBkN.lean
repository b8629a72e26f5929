import Derived.Test.YthajboipnjjgfaaBkM
namespace Go.Proofs.Ythajboipnjjgfaa.Ly
open Go.RowKit Go.Maps
set_option linter.unusedVariables false

def swT (A E : Int) (g : Gm) : Bool := stF A g.f && stF E g.t
/-- the places that a sweep takes out -/
def swX (A E : Int) (M : List Gm) : List Int := ((List.range M.length).filter (fun j => ((M[j]?).map (swT A E)).getD false)).map (fun j : Nat => (j : Int))
theorem swX_mem {A E : Int} {M : List Gm} {q : Nat} {g : Gm} (hg : M[q]? = some g) : (q : Int) ∈ swX A E M ↔ swT A E g = true := by
  have hq : q < M.length := (List.getElem?_eq_some_iff.1 hg).1
  unfold swX
  rw [List.mem_map]
  constructor
  · rintro ⟨j, hj, e⟩
    obtain rfl : j = q := by omega
    have := (List.mem_filter.1 hj).2
    rw [hg] at this
    simpa using this
  · intro h
    exact ⟨q, List.mem_filter.2 ⟨List.mem_range.2 hq, by rw [hg]; simpa using h⟩, rfl⟩
theorem sift_congr {p q : Nat → Gm → Bool} : ∀ (L : List Gm) (i : Nat), (∀ j g, L[j]? = some g → p (i + j) g = q (i + j) g) → sift p i L = sift q i L
  | [], i, h => rfl
  | g :: r, i, h => by
    have h0 := h 0 g rfl
    have ih := sift_congr (p := p) (q := q) r (i + 1) (fun j x hx => by
      have := h (j + 1) x (by simpa using hx)
      rwa [show i + (j + 1) = i + 1 + j by omega] at this)
    rw [Nat.add_zero] at h0
    simp only [sift, h0, ih]
theorem sweep_list {A E : Int} {L M : List Gm} (hs : M.map bare = L.map bare) : sift (swP A E) 0 L = sift (drP (swX A E M)) 0 L := by
  refine sift_congr L 0 (fun j g hg => ?_)
  rw [Nat.zero_add]
  have hj : j < L.length := (List.getElem?_eq_some_iff.1 hg).1
  have hl : M.length = L.length := by have := congrArg List.length hs; simpa using this
  obtain ⟨m, hm⟩ : ∃ m, M[j]? = some m := ⟨_, List.getElem?_eq_getElem (by omega)⟩
  have hb : m.f = g.f ∧ m.t = g.t ∧ m.ys = g.ys := by
    have e1 : (M.map bare)[j]? = (L.map bare)[j]? := by rw [hs]
    rw [List.getElem?_map, List.getElem?_map, hg, hm] at e1
    simpa [bare] using e1
  have key := swX_mem (A := A) (E := E) hm
  unfold drP
  show (stF A g.f && stF E g.t) = decide ((j : Int) ∈ swX A E M)
  rw [← hb.1, ← hb.2.1]
  cases hx : swT A E m with
  | true => rw [decide_eq_true (key.2 hx)]; exact hx
  | false => rw [decide_eq_false (fun h => by rw [key.1 h] at hx; cases hx)]; exact hx
theorem mid_at {xs : List Int} {M : List Gm} {q : Nat} {g : Gm} (hg : M[q]? = some g) : (mid xs M (q + 1))[q]? = some g := by
  have hq : q < M.length := (List.getElem?_eq_some_iff.1 hg).1
  unfold mid
  rw [List.getElem?_append_left (by rw [List.length_take]; omega), List.getElem?_take_of_lt (by omega), hg]

set_option maxRecDepth 100000 in
set_option maxHeartbeats 4000000 in
theorem booked_6 {w0 w : World} {b bm nb : Nat} {room : Int} {D : DataW Unit} {v : Value} {c : Ct} {L : List Gm} {u : Value} {M : List Gm} (h : Bs w0 w b bm nb room D v c L u M) (hc : Fax c) (A E N0 : Int) (kp : Bool) (atv dv : Value) (xs0 ys : List Int) (hr : RdI w0 atv xs0) (hd : Rd w0 dv ys) :
    Calls Try.prog 36 #[.pointer (some ⟨b, 0, none⟩), u, .agg #[.int .i64 6, .int .i64 A, .int .i64 E, .int .i64 N0, .bool kp, atv, dv], .int .i64 room] w fun e w' => ∃ u', e = .returned (.tuple #[u', .bool true]) ∧ ∃ M' v' c' L', PlR 6 c L c' L' ∧ Bs w0 w' b bm nb room D v' c' L' u' M' := by
  have mixed : Try.prog.follows .mixedOrders = true := by kernel_rfl
  have K1 := (Kp.alloc w (.cells #[.int .i64 6, .int .i64 A, .int .i64 E, .int .i64 N0, .bool kp, atv, dv] 55) Nu).drew
  have SW := sweep_any (h.nu K1).nt A E (Cok.x0 hc) hc.lt
  have hlen4 := h.len4
  obtain ⟨N, hN⟩ : ∃ N, M.length = N := ⟨_, rfl⟩
  obtain ⟨ad, cap, hu⟩ := own_slice h.own
  obtain ⟨ad1, c1, e1⟩ := hr.slice
  obtain ⟨ad2, c2, e2⟩ := hd.slice
  have HH := hide h
  have HN := hide hN
  have HD := hide h.dat
  rw [hN] at hu hlen4
  subst hu e1 e2
  generalize xs0.length = Nx at *
  generalize ys.length = Ny at *
  obtain ⟨xs, hxs⟩ : ∃ xs, swX A E M = xs := ⟨_, rfl⟩
  have HXS := hide hxs
  have HSL : Hid (sift (swP A E) 0 L = sift (drP xs) 0 L) := by
    show _ = _
    rw [sweep_list h.same, hxs]
  obtain ⟨cc, hcc⟩ : ∃ cc, (L.length : Int) - ((sift (swP A E) 0 L).length : Int) = cc := ⟨_, rfl⟩
  have HPL : Hid (PlR 6 c L { c with x := c.x + cc } (sift (swP A E) 0 L)) := by
    have := PlR.drop (kind := 6) (c := c) (L := L) (swP A E)
    rw [hcc] at this
    exact this
  rw [hcc] at SW
  clear hr hd h hN hcc hxs
  go_enter Try.func36, Try.ntmps36
  go_wp2_with fail
  go_region
  go_wp2_with fail
  refine SW.mono ?_
  rintro e w2 ⟨rfl, v', hN2, hF2⟩
  have hbx : w2.heap[w.heap.size]? = some (.cells #[.int .i64 6, .int .i64 A, .int .i64 E, .int .i64 N0, .bool kp, .slice ad1 Nx c1, .slice ad2 Ny c2] 55 (0, 0)) :=
    (hF2.kp.block _ (by simp [World.drew]) (fun hf => by have := HH.out.nt.lt _ hf; omega)).trans (heap_alloc_new w _)
  obtain ⟨ho, hkk⟩ := (HH.out.nu K1).fr hN2 hF2
  have HW := hide (And.intro hN2 (And.intro hkk hbx))
  have HI : Hid (w2.ownsRow w0.heap.size 94 3 (.slice ad N cap) (mid xs M N).length (cells (mid xs M N)) ∧ (mid xs M N).length = N) := by
    have e : mid xs M N = M := by rw [← HN.out]; exact mid_all xs M
    rw [e]
    exact ⟨ho, HN.out⟩
  clear SW hN2 hF2 hbx ho hkk K1
  go_wp2_with fail
  have HIS : Hid (∀ q g, g ∈ mid xs M q → g ∈ M) := fun q g hg => by
    unfold mid at hg
    rcases List.mem_append.1 hg with h1 | h1
    · exact List.mem_of_mem_take h1
    · exact List.mem_of_mem_drop (sift_mem _ _ _ _ h1)
  go_loopw [1, 17] (fun bk j wr => ∃ (q n : Nat) (adb : Option Addr) (cpb : Nat), q ≤ N ∧ n ≤ N ∧ bk = .slice adb n cpb ∧ j = .int .i64 ((q : Int) - 1) ∧ Hid ((mid xs M q).length = n ∧ wr.ownsRow w0.heap.size 94 3 (.slice adb n cpb) n (cells (mid xs M q)) ∧ Kp Nu w2 wr)) (fun _ j _ => (intOf j + 1).toNat)
  case atStart =>
    refine ⟨N, N, ad, cap, Nat.le_refl _, Nat.le_refl _, rfl, by go_num, ⟨HI.out.2, ?_, Kp.refl _ _⟩⟩
    have h1 := HI.out.1
    rw [HI.out.2] at h1
    exact h1
  case round =>
    obtain ⟨q, n, adb, cpb, hq, hnN, rfl, rfl, hJ⟩ := hrel
    match q, hq, hJ with
    | 0, hq, hJ =>
      have e1 : ((0 : Nat) : Int) - 1 = -1 := by omega
      rw [e1]
      obtain ⟨hl, hro, hkx⟩ := hJ.out
      have HF : Hid (Bs w0 wr b bm nb room D v' { c with x := c.x + cc } (sift (swP A E) 0 L) (.slice adb n cpb) (sift (drP xs) 0 M)) := by
        have e0 := mid_zero xs M
        rw [e0] at hro hl
        refine ⟨HW.out.1.nu hkx, HW.out.2.1.andNu hkx, by rw [hl]; exact hro, fun g hg => HD.out g (sift_mem _ _ _ _ hg), ?_⟩
        rw [HSL.out]
        exact sift_bare (q := fun k => decide ((k : Int) ∈ xs)) (fun _ _ => rfl) M L 0 HH.out.same
      clear hJ hl hro hkx
      go_wp2
      go_ret2
      exact ⟨_, rfl, _, v', _, _, HPL.out, HF.out⟩
    | q + 1, hq, hJ =>
      have e1 : ((q + 1 : Nat) : Int) - 1 = (q : Int) := by omega
      rw [e1]
      have hge : (q : Int) ≥ 0 := by omega
      have hq0 : (0 : Int) ≤ (q : Int) := by omega
      have hq4 : (q : Int) ≤ 4096 := by omega
      obtain ⟨hl, hro, hkx⟩ := hJ.out
      have hqM : q < M.length := by rw [HN.out]; omega
      obtain ⟨g, hg⟩ : ∃ g, M[q]? = some g := ⟨_, List.getElem?_eq_getElem hqM⟩
      have hgd := HD.out g (List.mem_of_getElem? hg)
      have hmem := swX_mem (A := A) (E := E) hg
      rw [HXS.out] at hmem
      have hqn : q < n := by
        have h1 := mid_at (xs := xs) hg
        have h2 := (List.getElem?_eq_some_iff.1 h1).1
        rw [hl] at h2
        exact h2
      have hqnI : (q : Int) < (n : Int) := by omega
      have hro2 : wr.ownsRow w0.heap.size 94 3 (.slice adb n cpb) (mid xs M (q + 1)).length (cells (mid xs M (q + 1))) := by rw [hl]; exact hro
      obtain ⟨rr, cr, hv, z0, z1, z2⟩ := row_at94 hro2 (mid_at (xs := xs) hg)
      simp only [Value.slice.injEq] at hv
      obtain ⟨rfl, hv2⟩ := hv
      clear hv2
      have hbx := (hkx.block _ (blk_lt HW.out.2.2) (fun h => h)).trans HW.out.2.2
      have y1 : wr.drew.cell? ⟨w.heap.size, 1, none⟩ = some (.int .i64 A) := by
        have : wr.cell? ⟨w.heap.size, 1, none⟩ = some (.int .i64 A) := by simp only [World.cell?, hbx]; rfl
        exact this
      have y2 : wr.drew.cell? ⟨w.heap.size, 2, none⟩ = some (.int .i64 E) := by
        have : wr.cell? ⟨w.heap.size, 2, none⟩ = some (.int .i64 E) := by simp only [World.cell?, hbx]; rfl
        exact this
      have x0 : wr.drew.cell? ⟨rr, q * 3, none⟩ = some (.int .u8 g.f) := z0
      have x1 : wr.drew.cell? ⟨rr, q * 3 + 1, none⟩ = some (.int .u8 g.t) := z1
      have wf : IntKind.i64.wrap g.f = g.f := by rw [IntKind.wrap_i64]; omega
      have wt : IntKind.i64.wrap g.t = g.t := by rw [IntKind.wrap_i64]; omega
      have hkd := hkx.drew
      have HK := hide hkd
      have HL := hide hl
      have HRO := hide hro
      have HQM := hide hqM
      have HMEM := hide hmem
      clear hJ hl hro hkx hro2 z0 z1 z2 hbx hgd hkd hmem hg hqM
      by_cases a1 : A = -1
      · have b1 : (A == -1) = true := by simpa using a1
        clear a1
        by_cases a3 : E = -1
        · have b3 : (E == -1) = true := by simpa using a3
          clear a3
          have HT : swT A E g = true := by
            unfold swT stF
            simp [b1, b3]
          obtain ⟨d1, d2, d3⟩ := mid_drop HQM.out (HMEM.out.2 HT)
          have ST := strike (u := .slice (some ⟨rr, 0, none⟩) n cpb) (M := mid xs M (q + 1)) (HW.out.1.nu HK.out) (HW.out.2.1.andNu HK.out) (by rw [HL.out]; exact HRO.out) (fun g hg => HD.out g (HIS.out _ g hg)) (by rw [HL.out]; omega) (q : Int)
          rw [d1] at ST
          clear d1 d2 d3
          go_wp2_with fail
          go_region
          go_wp2_with fail
          refine ST.mono ?_; rintro e w6 ⟨u6, rfl, ho6, hk6⟩
          obtain ⟨a6, c6, e6⟩ := own_slice ho6
          obtain ⟨n6, hn6⟩ : ∃ n6, (mid xs M q).length = n6 := ⟨_, rfl⟩
          rw [hn6] at e6 ho6
          subst e6
          have hn7 : n6 ≤ N := by have := mid_le xs M q; have := HN.out; omega
          have HF : Hid ((mid xs M q).length = n6 ∧ w6.ownsRow w0.heap.size 94 3 (.slice a6 n6 c6) n6 (cells (mid xs M q)) ∧ Kp Nu w2 w6) := ⟨hn6, ho6, HK.out.andNu hk6⟩
          clear ST ho6 hn6 hk6
          go_wp2
          exact ⟨⟨q, n6, a6, c6, by omega, hn7, rfl, by go_num, HF⟩, by simp [intOf]⟩
        · have b3 : (E == -1) = false := by simpa using a3
          by_cases a4 : E = g.t
          · have b4 : (E == g.t) = true := by simpa using a4
            clear a4 a3
            have HT : swT A E g = true := by
              unfold swT stF
              simp [b1, b3, b4]
            obtain ⟨d1, d2, d3⟩ := mid_drop HQM.out (HMEM.out.2 HT)
            have ST := strike (u := .slice (some ⟨rr, 0, none⟩) n cpb) (M := mid xs M (q + 1)) (HW.out.1.nu HK.out) (HW.out.2.1.andNu HK.out) (by rw [HL.out]; exact HRO.out) (fun g hg => HD.out g (HIS.out _ g hg)) (by rw [HL.out]; omega) (q : Int)
            rw [d1] at ST
            clear d1 d2 d3
            go_wp2_with fail
            go_region
            go_wp2_with fail
            refine ST.mono ?_; rintro e w6 ⟨u6, rfl, ho6, hk6⟩
            obtain ⟨a6, c6, e6⟩ := own_slice ho6
            obtain ⟨n6, hn6⟩ : ∃ n6, (mid xs M q).length = n6 := ⟨_, rfl⟩
            rw [hn6] at e6 ho6
            subst e6
            have hn7 : n6 ≤ N := by have := mid_le xs M q; have := HN.out; omega
            have HF : Hid ((mid xs M q).length = n6 ∧ w6.ownsRow w0.heap.size 94 3 (.slice a6 n6 c6) n6 (cells (mid xs M q)) ∧ Kp Nu w2 w6) := ⟨hn6, ho6, HK.out.andNu hk6⟩
            clear ST ho6 hn6 hk6
            go_wp2
            exact ⟨⟨q, n6, a6, c6, by omega, hn7, rfl, by go_num, HF⟩, by simp [intOf]⟩
          · have b4 : (E == g.t) = false := by simpa using a4
            have HT : swT A E g = false := by
              unfold swT stF
              simp [b1, b3, b4]
            have d1 := mid_skip HQM.out (fun hx => by have := HMEM.out.1 hx; rw [HT] at this; cases this)
            have HF : Hid ((mid xs M q).length = n ∧ wr.drew.ownsRow w0.heap.size 94 3 (.slice (some ⟨rr, 0, none⟩) n cpb) n (cells (mid xs M q)) ∧ Kp Nu w2 wr.drew) := by
              rw [d1]
              exact ⟨HL.out, HRO.out, HK.out⟩
            clear d1
            go_wp2_with fail
            go_region
            go_wp2
            exact ⟨⟨q, n, _, cpb, by omega, hnN, rfl, by go_num, HF⟩, by simp [intOf]⟩
      · have b1 : (A == -1) = false := by simpa using a1
        by_cases a2 : A = g.f
        · have b2 : (A == g.f) = true := by simpa using a2
          clear a2 a1
          by_cases a3 : E = -1
          · have b3 : (E == -1) = true := by simpa using a3
            clear a3
            have HT : swT A E g = true := by
              unfold swT stF
              simp [b1, b2, b3]
            obtain ⟨d1, d2, d3⟩ := mid_drop HQM.out (HMEM.out.2 HT)
            have ST := strike (u := .slice (some ⟨rr, 0, none⟩) n cpb) (M := mid xs M (q + 1)) (HW.out.1.nu HK.out) (HW.out.2.1.andNu HK.out) (by rw [HL.out]; exact HRO.out) (fun g hg => HD.out g (HIS.out _ g hg)) (by rw [HL.out]; omega) (q : Int)
            rw [d1] at ST
            clear d1 d2 d3
            go_wp2_with fail
            go_region
            go_wp2_with fail
            refine ST.mono ?_; rintro e w6 ⟨u6, rfl, ho6, hk6⟩
            obtain ⟨a6, c6, e6⟩ := own_slice ho6
            obtain ⟨n6, hn6⟩ : ∃ n6, (mid xs M q).length = n6 := ⟨_, rfl⟩
            rw [hn6] at e6 ho6
            subst e6
            have hn7 : n6 ≤ N := by have := mid_le xs M q; have := HN.out; omega
            have HF : Hid ((mid xs M q).length = n6 ∧ w6.ownsRow w0.heap.size 94 3 (.slice a6 n6 c6) n6 (cells (mid xs M q)) ∧ Kp Nu w2 w6) := ⟨hn6, ho6, HK.out.andNu hk6⟩
            clear ST ho6 hn6 hk6
            go_wp2
            exact ⟨⟨q, n6, a6, c6, by omega, hn7, rfl, by go_num, HF⟩, by simp [intOf]⟩
          · have b3 : (E == -1) = false := by simpa using a3
            by_cases a4 : E = g.t
            · have b4 : (E == g.t) = true := by simpa using a4
              clear a4 a3
              have HT : swT A E g = true := by
                unfold swT stF
                simp [b1, b2, b3, b4]
              obtain ⟨d1, d2, d3⟩ := mid_drop HQM.out (HMEM.out.2 HT)
              have ST := strike (u := .slice (some ⟨rr, 0, none⟩) n cpb) (M := mid xs M (q + 1)) (HW.out.1.nu HK.out) (HW.out.2.1.andNu HK.out) (by rw [HL.out]; exact HRO.out) (fun g hg => HD.out g (HIS.out _ g hg)) (by rw [HL.out]; omega) (q : Int)
              rw [d1] at ST
              clear d1 d2 d3
              go_wp2_with fail
              go_region
              go_wp2_with fail
              refine ST.mono ?_; rintro e w6 ⟨u6, rfl, ho6, hk6⟩
              obtain ⟨a6, c6, e6⟩ := own_slice ho6
              obtain ⟨n6, hn6⟩ : ∃ n6, (mid xs M q).length = n6 := ⟨_, rfl⟩
              rw [hn6] at e6 ho6
              subst e6
              have hn7 : n6 ≤ N := by have := mid_le xs M q; have := HN.out; omega
              have HF : Hid ((mid xs M q).length = n6 ∧ w6.ownsRow w0.heap.size 94 3 (.slice a6 n6 c6) n6 (cells (mid xs M q)) ∧ Kp Nu w2 w6) := ⟨hn6, ho6, HK.out.andNu hk6⟩
              clear ST ho6 hn6 hk6
              go_wp2
              exact ⟨⟨q, n6, a6, c6, by omega, hn7, rfl, by go_num, HF⟩, by simp [intOf]⟩
            · have b4 : (E == g.t) = false := by simpa using a4
              have HT : swT A E g = false := by
                unfold swT stF
                simp [b1, b2, b3, b4]
              have d1 := mid_skip HQM.out (fun hx => by have := HMEM.out.1 hx; rw [HT] at this; cases this)
              have HF : Hid ((mid xs M q).length = n ∧ wr.drew.ownsRow w0.heap.size 94 3 (.slice (some ⟨rr, 0, none⟩) n cpb) n (cells (mid xs M q)) ∧ Kp Nu w2 wr.drew) := by
                rw [d1]
                exact ⟨HL.out, HRO.out, HK.out⟩
              clear d1
              go_wp2_with fail
              go_region
              go_wp2
              exact ⟨⟨q, n, _, cpb, by omega, hnN, rfl, by go_num, HF⟩, by simp [intOf]⟩
        · have b2 : (A == g.f) = false := by simpa using a2
          have HT : swT A E g = false := by
            unfold swT stF
            simp [b1, b2]
          have d1 := mid_skip HQM.out (fun hx => by have := HMEM.out.1 hx; rw [HT] at this; cases this)
          have HF : Hid ((mid xs M q).length = n ∧ wr.drew.ownsRow w0.heap.size 94 3 (.slice (some ⟨rr, 0, none⟩) n cpb) n (cells (mid xs M q)) ∧ Kp Nu w2 wr.drew) := by
            rw [d1]
            exact ⟨HL.out, HRO.out, HK.out⟩
          clear d1
          go_wp2_with fail
          go_region
          go_wp2
          exact ⟨⟨q, n, _, cpb, by omega, hnN, rfl, by go_num, HF⟩, by simp [intOf]⟩
end Go.Proofs.Ythajboipnjjgfaa.Ly
