import Derived.Test.YthajboipnjjgfaaBkC
namespace Go.Proofs.Ythajboipnjjgfaa.Ly
open Go.RowKit Go.Maps
set_option linter.unusedVariables false

/-- the network and its book; the data of the book lie where the script lies -/
structure Bs (w0 w : World) (b bm nb : Nat) (room : Int) (D : DataW Unit) (v : Value) (c : Ct) (L : List Gm) (u : Value) (M : List Gm) : Prop where
  nt : Nt w0.heap.size w b bm nb room D v c L
  kp : Kp Nu w0 w
  own : w.ownsRow w0.heap.size 94 3 u M.length (cells M)
  dat : ∀ g ∈ M, Rd w0 g.d g.ys ∧ g.ys.length ≤ 1024 ∧ 0 ≤ g.f ∧ g.f < 256 ∧ 0 ≤ g.t ∧ g.t < 256
  same : M.map bare = L.map bare
section
variable {w0 w w' : World} {b bm nb nb' : Nat} {room : Int} {D D' : DataW Unit} {v v' : Value} {c c' : Ct} {L L' : List Gm} {u u' : Value} {M M' : List Gm}
theorem Bs.bo (h : Bs w0 w b bm nb room D v c L u M) : Bo w w0.heap.size u M := ⟨h.own, fun g hg => ⟨(h.dat g hg).1.nu h.kp, (h.dat g hg).2⟩⟩
theorem Bs.nu (h : Bs w0 w b bm nb room D v c L u M) (k : Kp Nu w w') : Bs w0 w' b bm nb room D v c L u M :=
  ⟨h.nt.nu k, h.kp.andNu k, own_keep h.own (fun g hg => k.block g (own_lt h.own hg) (fun h => h)), h.dat, h.same⟩
theorem Nt.at94 (h : Nt w0.heap.size w b bm nb room D v c L) {k : Nat} {cur : Array Value} (hk : w.heap[k]? = some (.cells cur 94 (0, 0))) : ¬ fp b bm v k := by
  rintro (rfl | rfl | e)
  · rw [h.blk] at hk; cases hk
  · obtain ⟨es, clock, hb⟩ := map_obj h.map
    rw [hb] at hk; cases hk
  · obtain ⟨cur', hc⟩ := own_obj h.own e.symm
    rw [hc] at hk; cases hk
theorem Bs.len (h : Bs w0 w b bm nb room D v c L u M) : M.length = L.length := by
  have := congrArg List.length h.same
  simpa using this
theorem Bs.len4 (h : Bs w0 w b bm nb room D v c L u M) : (M.length : Int) ≤ 4096 := by
  have h1 := h.len; have h2 := h.nt.len; have h3 := h.nt.r1; omega
/-- the network has been asked, the book is as it was -/
theorem Bs.fr (h : Bs w0 w b bm nb room D v c L u M) (hN : Nt w0.heap.size w' b bm nb' room D' v' c' L') (hF : Fr b bm v w w' v') : w'.ownsRow w0.heap.size 94 3 u M.length (cells M) ∧ Kp Nu w0 w' :=
  ⟨own_keep h.own (fun g hg => by
    obtain ⟨cur, hc⟩ := own_obj h.own hg
    exact hF.kp.block g (blk_lt hc) (h.nt.at94 hc)), h.nt.step h.kp hF⟩
/-- one is struck off the book -/
theorem strike (hN : Nt w0.heap.size w b bm nb room D v c L) (kp : Kp Nu w0 w) (own : w.ownsRow w0.heap.size 94 3 u M.length (cells M)) (dat : ∀ g ∈ M, Rd w0 g.d g.ys ∧ g.ys.length ≤ 1024 ∧ 0 ≤ g.f ∧ g.f < 256 ∧ 0 ≤ g.t ∧ g.t < 256) (hM : (M.length : Int) ≤ 100000) (a : Int) :
    Calls Try.prog 55 #[u, .int .i64 a] w fun e w' => ∃ u', e = .returned u' ∧ w'.ownsRow w0.heap.size 94 3 u' (sift (drP [a]) 0 M).length (cells (sift (drP [a]) 0 M)) ∧ Kp Nu w w' := by
  refine (without_any (B := w0.heap.size) ⟨own, fun g hg => ⟨(dat g hg).1.nu kp, (dat g hg).2⟩⟩ a hM).mono ?_
  rintro e w' ⟨u', rfl, hb, hk⟩
  exact ⟨u', rfl, own_base hb.own kp.size, hk⟩
end

set_option maxRecDepth 100000 in
set_option maxHeartbeats 1000000 in
theorem dropped_any {w0 w : World} {b bm nb : Nat} {room : Int} {D : DataW Unit} {v : Value} {c : Ct} {L : List Gm} {u : Value} {M : List Gm} (h : Bs w0 w b bm nb room D v c L u M) (ua : Value) (xs : List Int) (hr : RdI w0 ua xs) (hn : (xs.length : Int) ≤ 9223372036854775807) (hx0 : 0 ≤ c.x) (hx1 : c.x < 4611686018427387000) :
    Calls Try.prog 56 #[.pointer (some ⟨b, 0, none⟩), u, ua] w fun e w' => ∃ u' M' v' c' L', e = .returned (.tuple #[u', .bool true]) ∧ Bs w0 w' b bm nb room D v' c' L' u' M' ∧ PlR 5 c L c' L' := by
  have DR := drop_any h.nt ua xs (hr.nu h.kp) hn hx0 hx1
  obtain ⟨ad, cap, hu⟩ := own_slice h.own
  obtain ⟨ax, cx, hux⟩ := hr.slice
  obtain ⟨N, hN⟩ : ∃ N, M.length = N := ⟨_, rfl⟩
  cases hin : inAll xs L.length
  · have DR2 : Calls Try.prog 19 #[.pointer (some ⟨b, 0, none⟩), ua] w fun e w' => e = .returned (.tuple #[.int .i64 0, .int .i64 54]) ∧ Kp Nu w w' := DR.mono (fun e w' hd => by
      unfold DrP at hd
      rw [hin] at hd
      exact hd)
    have nm := fun W => num_any 54 W
    have IN := fun W (k : Kp Nu w W) => inside_any ((hr.nu h.kp).nu k) hn M.length
    rw [h.len, hin, ← h.len, hN] at IN
    have HH := hide h
    rw [hN] at hu
    subst hu hux
    generalize xs.length = NX at *
    clear DR hr h hin
    go_enter Try.func56, Try.ntmps56
    go_wp2_with fail
    refine DR2.mono ?_; rintro e w2 ⟨rfl, hk2⟩
    clear DR2
    go_wp2_with fail
    refine (nm _).mono ?_; rintro e w3 ⟨rfl, rfl⟩
    clear nm
    go_wp2_with fail
    refine (IN _ hk2).mono ?_; rintro e w4 ⟨rfl, hk4⟩
    clear IN
    go_wp2
    go_ret2
    exact ⟨_, M, v, c, L, rfl, (HH.out.nu hk2).nu hk4, .same⟩
  · have DR2 : Calls Try.prog 19 #[.pointer (some ⟨b, 0, none⟩), ua] w fun e w' => e = .returned (.tuple #[.int .i64 ((L.length : Int) - ((sift (drP xs) 0 L).length : Int)), .int .i64 0]) ∧ ∃ v', Nt w0.heap.size w' b bm nb room D v' { c with x := c.x + ((L.length : Int) - ((sift (drP xs) 0 L).length : Int)) } (sift (drP xs) 0 L) ∧ Fr b bm v w w' v' := DR.mono (fun e w' hd => by
      unfold DrP at hd
      rw [hin] at hd
      exact hd)
    have nm := fun W => num_any 0 W
    have hsl : (sift (drP xs) 0 L).length = (sift (drP xs) 0 M).length := by
      have := congrArg List.length (sift_bare (p := drP xs) (q := fun k => decide ((k : Int) ∈ xs)) (fun _ _ => rfl) L M 0 h.same.symm)
      simpa using this
    rw [hsl, ← h.len, hN] at DR2
    have hle := sift_length_le (drP xs) M 0
    rw [hN] at hle
    have HB : Hid (∀ {W : World} {v' c' L'}, Nt w0.heap.size W b bm nb room D v' c' L' → Fr b bm v w W v' → W.ownsRow w0.heap.size 94 3 u M.length (cells M) ∧ Kp Nu w0 W) := fun hN' hF' => h.fr hN' hF'
    have HD := hide h.dat
    have HS := hide h.same
    have hN4 : (N : Int) ≤ 4096 := by rw [← hN]; exact h.len4
    have HN := hide hN
    have HR := hide hr
    have HX := hide hn
    rw [hN] at hu
    obtain ⟨NX, hNX⟩ : ∃ NX, xs.length = NX := ⟨_, rfl⟩
    rw [hNX] at hux
    subst hu hux
    clear hNX hn
    clear DR hr h hin hN
    obtain ⟨K, hK⟩ : ∃ K, (sift (drP xs) 0 M).length = K := ⟨_, rfl⟩
    rw [hK] at DR2 hle
    have HKK := hide hK
    clear hK hsl
    go_enter Try.func56, Try.ntmps56
    go_wp2_with fail
    refine DR2.mono ?_; rintro e w2 ⟨rfl, v', hN2, hF2⟩
    have HW := hide (And.intro hN2 hF2)
    have HI : Hid (w2.ownsRow w0.heap.size 94 3 (.slice ad N cap) (mid xs M N).length (cells (mid xs M N)) ∧ Kp Nu w0 w2) := by
      have := HB.out hN2 hF2
      have e : mid xs M N = M := by rw [← HN.out]; exact mid_all xs M
      rw [e]
      exact this
    clear DR2 hN2 hF2
    go_wp2_with fail
    refine (nm _).mono ?_; rintro e w3 ⟨rfl, hw3⟩
    obtain rfl := hw3.symm
    clear nm hw3
    go_wp2_with fail
    have HIS : Hid (∀ q g, g ∈ mid xs M q → g ∈ M) := fun q g hg => by
      unfold mid at hg
      rcases List.mem_append.1 hg with h1 | h1
      · exact List.mem_of_mem_take h1
      · exact List.mem_of_mem_drop (sift_mem _ _ _ _ h1)
    go_loopw [1, 11] (fun bk j wr => ∃ (q n : Nat) (adb : Option Addr) (cpb : Nat), q ≤ N ∧ n ≤ N ∧ bk = .slice adb n cpb ∧ j = .int .i64 ((q : Int) - 1) ∧ Hid ((mid xs M q).length = n ∧ wr.ownsRow w0.heap.size 94 3 (.slice adb n cpb) n (cells (mid xs M q)) ∧ Kp Nu w2 wr)) (fun _ j _ => (intOf j + 1).toNat)
    case atStart =>
      have e : (mid xs M N).length = N := by rw [← HN.out, mid_all]
      refine ⟨N, N, ad, cap, Nat.le_refl _, Nat.le_refl _, rfl, by go_num, ⟨e, ?_, Kp.refl _ _⟩⟩
      have h1 := HI.out.1
      rw [e] at h1
      exact h1
    case round =>
      obtain ⟨q, n, adb, cpb, hq, hnN, rfl, rfl, hJ⟩ := hrel
      match q, hq, hJ with
      | 0, hq, hJ =>
        have e1 : ((0 : Nat) : Int) - 1 = -1 := by omega
        rw [e1]
        obtain ⟨hl, hro, hkx⟩ := hJ.out
        have hnK : n = K := by rw [← hl, mid_zero]; exact HKK.out
        have HF : Hid (Bs w0 wr b bm nb room D v' { c with x := c.x + ((N : Int) - (K : Int)) } (sift (drP xs) 0 L) (.slice adb n cpb) (sift (drP xs) 0 M) ∧ PlR 5 c L { c with x := c.x + ((N : Int) - (K : Int)) } (sift (drP xs) 0 L)) := by
          have e0 := mid_zero xs M
          refine ⟨⟨HW.out.1.nu hkx, HI.out.2.andNu hkx, by rw [e0] at hro hl; rw [hl]; exact hro, fun g hg => HD.out g (sift_mem _ _ _ _ hg), sift_bare (q := fun k => decide ((k : Int) ∈ xs)) (fun _ _ => rfl) M L 0 HS.out⟩, ?_⟩
          have h1 := PlR.drop (kind := 5) (c := c) (L := L) (drP xs)
          have e3 : (L.length : Int) = (N : Int) := by
            have := congrArg List.length HS.out
            have := HN.out
            simp at *
            omega
          have e4 : ((sift (drP xs) 0 L).length : Int) = (K : Int) := by
            have := congrArg List.length (sift_bare (p := drP xs) (q := fun k => decide ((k : Int) ∈ xs)) (fun _ _ => rfl) M L 0 HS.out)
            have := HKK.out
            simp at *
            omega
          rw [e3, e4] at h1
          exact h1
        subst hnK
        clear hJ hl hro hkx
        go_wp2
        go_ret2
        refine ⟨_, _, v', _, _, ?_, HF.out.1, HF.out.2⟩
        simp
      | q + 1, hq, hJ =>
        have e1 : ((q + 1 : Nat) : Int) - 1 = (q : Int) := by omega
        rw [e1]
        have hge : (q : Int) ≥ 0 := by omega
        have hq4 : (q : Int) ≤ 4096 := by omega
        obtain ⟨hl, hro, hkx⟩ := hJ.out
        have hqM : q < M.length := by rw [HN.out]; omega
        have AM := among_any ((HR.out.nu HI.out.2).nu hkx) HX.out (q : Int)
        have HK := hide hkx
        have HL := hide hl
        have HRO := hide hro
        clear hJ hl hro hkx
        by_cases hm : (q : Int) ∈ xs
        · rw [decide_eq_true hm] at AM
          obtain ⟨d1, d2, d3⟩ := mid_drop hqM hm
          have HD3 := hide (And.intro d1 d2)
          clear hm d1 d2 d3 hqM
          go_wp2_with fail
          refine AM.mono ?_; rintro e w5 ⟨rfl, hk5⟩
          have ST := strike (u := .slice adb n cpb) (M := mid xs M (q + 1)) ((HW.out.1.nu HK.out).nu hk5) ((HI.out.2.andNu HK.out).andNu hk5) (by rw [HL.out]; exact own_keep HRO.out (fun g hg => hk5.block g (own_lt HRO.out hg) (fun h => h))) (fun g hg => HD.out g (HIS.out _ g hg)) (by rw [HL.out]; omega) (q : Int)
          rw [HD3.out.1] at ST
          have HK5 := hide (HK.out.andNu hk5)
          clear AM hk5
          go_wp2_with fail
          refine ST.mono ?_; rintro e w6 ⟨u6, rfl, ho6, hk6⟩
          obtain ⟨a6, c6, e6⟩ := own_slice ho6
          obtain ⟨n6, hn6⟩ : ∃ n6, (mid xs M q).length = n6 := ⟨_, rfl⟩
          rw [hn6] at e6 ho6
          subst e6
          have hn7 : n6 ≤ N := by have := mid_le xs M q; have := HN.out; omega
          have HF : Hid ((mid xs M q).length = n6 ∧ w6.ownsRow w0.heap.size 94 3 (.slice a6 n6 c6) n6 (cells (mid xs M q)) ∧ Kp Nu w2 w6) := ⟨hn6, ho6, HK5.out.andNu hk6⟩
          clear ST ho6 hn6 hk6
          go_wp2
          exact ⟨⟨q, n6, a6, c6, by omega, hn7, rfl, by go_num, HF⟩, by simp [intOf]⟩
        · rw [decide_eq_false hm] at AM
          have d1 := mid_skip hqM hm
          have HD3 := hide d1
          clear hm d1 hqM
          go_wp2_with fail
          refine AM.mono ?_; rintro e w5 ⟨rfl, hk5⟩
          have HF : Hid ((mid xs M q).length = n ∧ w5.ownsRow w0.heap.size 94 3 (.slice adb n cpb) n (cells (mid xs M q)) ∧ Kp Nu w2 w5) := by
            rw [HD3.out]
            exact ⟨HL.out, own_keep HRO.out (fun g hg => hk5.block g (own_lt HRO.out hg) (fun h => h)), HK.out.andNu hk5⟩
          clear AM hk5
          go_wp2
          exact ⟨⟨q, n, adb, cpb, by omega, hnN, rfl, by go_num, HF⟩, by simp [intOf]⟩
end Go.Proofs.Ythajboipnjjgfaa.Ly
