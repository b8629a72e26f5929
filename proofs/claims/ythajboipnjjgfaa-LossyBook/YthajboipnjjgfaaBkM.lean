import Derived.Test.YthajboipnjjgfaaBkL
namespace Go.Proofs.Ythajboipnjjgfaa.Ly
open Go.RowKit Go.Maps
set_option linter.unusedVariables false

set_option maxRecDepth 100000 in
set_option maxHeartbeats 2000000 in
theorem booked_1 {w0 w : World} {b bm nb : Nat} {room : Int} {D : DataW Unit} {v : Value} {c : Ct} {L : List Gm} {u : Value} {M : List Gm} (h : Bs w0 w b bm nb room D v c L u M) (hc : Fax c) (A E N : Int) (kp : Bool) (atv dv : Value) (xs ys : List Int) (hr : RdI w0 atv xs) (hd : Rd w0 dv ys) (hnb : (nb : Int) ≤ 4611686018426) :
    Calls Try.prog 36 #[.pointer (some ⟨b, 0, none⟩), u, .agg #[.int .i64 1, .int .i64 A, .int .i64 E, .int .i64 N, .bool kp, atv, dv], .int .i64 room] w fun e w' => ∃ u', e = .returned (.tuple #[u', .bool true]) ∧ ∃ M' v' c' L', PlR 1 c L c' L' ∧ Bs w0 w' b bm nb room D v' c' L' u' M' := by
  have mixed : Try.prog.follows .mixedOrders = true := by kernel_rfl
  obtain ⟨i0, hi, hz0, hz1, hz2⟩ := info_parts info94
  have K1 := (Kp.alloc w (.cells #[.int .i64 1, .int .i64 A, .int .i64 E, .int .i64 N, .bool kp, atv, dv] 55) Nu).drew
  have SE := send_r (h.nu K1).nt (A % 256) (E % 256) (by omega) (by omega) (by omega) (by omega) dv ys ((hd.nu h.kp).nu K1) hc.far
  have HH := hide h
  have HD := hide hd
  have hlen := h.len
  have hlen4 := h.len4
  obtain ⟨ad, cap, hu⟩ := own_slice h.own
  obtain ⟨ad1, c1, e1⟩ := hr.slice
  obtain ⟨ad2, c2, e2⟩ := hd.slice
  obtain ⟨NM, hNM⟩ : ∃ N, M.length = N := ⟨_, rfl⟩
  obtain ⟨Ny, hNy⟩ : ∃ N, ys.length = N := ⟨_, rfl⟩
  have HNM := hide hNM
  rw [hNM] at hu hlen hlen4
  rw [hNy] at e2
  have HLEN := hide hlen
  clear hlen hNM
  have HUE := hide hu
  have HDE := hide e2
  have HNy := hide hNy
  subst hu e1 e2
  generalize xs.length = Nx at *
  clear hr hd h
  go_enter Try.func36, Try.ntmps36
  go_wp2_with fail
  go_region
  go_wp2_with fail
  refine SE.mono ?_
  rintro e w2 ⟨code, rfl, hS⟩
  have hsz : w.heap.size < (w.alloc (.cells #[.int .i64 1, .int .i64 A, .int .i64 E, .int .i64 N, .bool kp, .slice ad1 Nx c1, .slice ad2 Ny c2] 55)).drew.heap.size := by simp [World.drew]
  have HBX : Hid (∀ v', Fr b bm v (w.alloc (.cells #[.int .i64 1, .int .i64 A, .int .i64 E, .int .i64 N, .bool kp, .slice ad1 Nx c1, .slice ad2 Ny c2] 55)).drew w2 v' → w2.heap[w.heap.size]? = some (.cells #[.int .i64 1, .int .i64 A, .int .i64 E, .int .i64 N, .bool kp, .slice ad1 Nx c1, .slice ad2 Ny c2] 55 (0, 0))) := fun v' hF =>
    (hF.kp.block _ hsz (fun hf => by have := HH.out.nt.lt _ hf; omega)).trans (heap_alloc_new w _)
  clear SE
  rcases hS with ⟨rfl, hy4, c', v', d', hpl, hN2, hF2, hroom⟩ | ⟨hcode, c', v', hpl, hN2, hF2, himp⟩
  · have hbx := HBX.out v' hF2
    have y6 : w2.cell? ⟨w.heap.size, 6, none⟩ = some (.slice ad2 Ny c2) := by simp only [World.cell?, hbx]; rfl
    obtain ⟨ho, hkk⟩ := (HH.out.nu K1).fr hN2 hF2
    rw [HNM.out] at ho
    have HX := hide (And.intro hN2 (And.intro hkk (And.intro ho hpl)))
    have hg2 : w0.heap.size ≤ w2.heap.size := hkk.size
    have HR := hide (ho.alloc (.cells #[.int .u8 (A % 256), .int .u8 (E % 256), .slice ad2 Ny c2] 94))
    have HT := hide (cell_three_new w2 (.int .u8 (A % 256)) (.int .u8 (E % 256)) (.slice ad2 Ny c2) 94)
    clear hbx ho hkk hN2 hF2 hpl HBX hsz K1
    go_wp2_with fail
    refine (num_any 0 _).mono ?_; rintro e w3 ⟨rfl, hw3⟩
    obtain rfl := hw3.symm
    clear hw3
    go_wp2_with (first
      | (at_builtin; refine wpList_append_own _ rfl _ _ 64 rfl w0.heap.size 94 i0 (.agg #[.int .u8 0, .int .u8 0, .slice none 0 0]) 3 32 Try.underlying64 hi hz0 hz1 hz2 rfl (by decide) _ _ _ rfl HR.out ⟨w2.heap.size, 0, none⟩ 1 1 [.int .u8 (A % 256), .int .u8 (E % 256), .slice ad2 Ny c2] rfl rfl HT.out (by simp [Value.oneCell']) (by unfold maxLen; omega) (by omega) (by simp; omega) ?_; intro v3 w3 hown' hg3 hnil3; obtain ⟨ad3, cp3, ev3⟩ := own_slice hown'; have HO := hide hown'; have HG3 := hide hg3; subst ev3; clear hown' hg3 hnil3)
      | go_in)
    go_ret2
    refine ⟨_, rfl, M ++ [⟨A % 256, E % 256, .slice ad2 Ny c2, ys⟩], v', c', _, HX.out.2.2.2, ?_⟩
    have k3 : Kp (fun k => some k = (Value.slice ad NM cap).ownBlock) w2 w3 := ((Kp.alloc w2 _ Nu).mono (fun _ _ h => h.elim)).trans (Kp.of_grown HG3.out) (fun _ _ h => h)
    have hty : ∀ g, some g = (Value.slice ad NM cap).ownBlock → ¬ fp b bm v' g ∧ w0.heap.size ≤ g := fun g hg => by
      obtain ⟨cur, hcur⟩ := own_obj HX.out.2.2.1 hg.symm
      exact ⟨HX.out.1.at94 hcur, (HX.out.2.2.1.lt g hg.symm).1⟩
    refine ⟨?_, ?_, ?_, ?_, ?_⟩
    · exact HX.out.1.keep k3 (fun i hi e => ⟨(hty i e).1, fun cur hcur => by obtain ⟨cur', hc'⟩ := own_obj HX.out.2.2.1 e.symm; rw [hc'] at hcur; cases hcur⟩)
    · exact HX.out.2.1.trans k3 (fun i hi e => by have := (hty i e).2; omega)
    · have h1 := HO.out
      have hl2 : (M ++ [(⟨A % 256, E % 256, .slice ad2 Ny c2, ys⟩ : Gm)]).length = NM + 1 := by rw [← HNM.out]; simp
      rw [hl2]
      have hcc : cells (M ++ [(⟨A % 256, E % 256, .slice ad2 Ny c2, ys⟩ : Gm)]) = cells M ++ [.int .u8 (A % 256), .int .u8 (E % 256), .slice ad2 Ny c2] := by simp [cells, Gm.cells]
      rw [hcc]
      exact h1
    · intro g hg
      rcases List.mem_append.1 hg with hg | hg
      · exact HH.out.dat g hg
      · simp at hg; subst hg
        exact ⟨HD.out, hy4, by dsimp only; omega, by dsimp only; omega, by dsimp only; omega, by dsimp only; omega⟩
    · simp only [List.map_append, List.map_cons, List.map_nil]
      rw [HH.out.same]
      rfl
  · have hbx := HBX.out v' hF2
    have y6 : w2.cell? ⟨w.heap.size, 6, none⟩ = some (.slice ad2 Ny c2) := by simp only [World.cell?, hbx]; rfl
    have y0 : w2.cell? ⟨w.heap.size, 0, none⟩ = some (.int .i64 1) := by simp only [World.cell?, hbx]; rfl
    obtain ⟨ho, hkk⟩ := (HH.out.nu K1).fr hN2 hF2
    have HB2 : Hid (Bs w0 w2 b bm nb room D v' c' L (.slice ad NM cap) M) := ⟨hN2, hkk, ho, HH.out.dat, HH.out.same⟩
    have BL := blocked_any hN2 hnb
    have hcd : (code == 0) = false := by simpa using hcode
    have nm := num_any code w2
    have HPL := hide hpl
    have HIMP := hide himp
    clear hbx ho hkk hN2 hF2 hpl HBX hsz K1 himp hcode
    by_cases q1 : (NM : Int) < room
    · have q1d : decide ((NM : Int) < room) = true := decide_eq_true q1
      by_cases q2 : (Ny : Int) = 1
      · have q2d : ((Ny : Int) == 1) = true := by simpa using q2
        by_cases q3 : A % 256 < 33
        · have q3d : decide (A % 256 < 33) = true := decide_eq_true q3
          have hbar := HIMP.out (by have := HLEN.out; omega) (by have := HNy.out; omega) ⟨fun _ => rfl, fun _ => q3⟩
          go_wp2_with fail
          refine nm.mono ?_; rintro e w3 ⟨rfl, hw3⟩
          obtain rfl := hw3.symm
          clear hw3 nm
          go_wp2_with fail
          refine BL.mono ?_; rintro e w4 ⟨ub, ss, rfl, hks, hown4, hk4⟩
          have hpos := ks_ne hks (by omega) (by omega) (by omega) (by omega) hbar
          obtain ⟨ab, cb, hub⟩ := own_slice hown4
          have HB4 := hide (HB2.out.nu hk4)
          generalize ss.length = NS at *
          have hns : (((NS : Nat) : Int) == 0) = false := by simp; omega
          subst hub
          clear BL hks hown4 hk4 hbar
          go_wp2
          go_ret2
          exact ⟨_, rfl, M, v', c', L, HPL.out, HB4.out⟩
        · have q3d : decide (A % 256 < 33) = false := decide_eq_false q3
          clear BL
          go_wp2_with fail
          refine nm.mono ?_; rintro e w3 ⟨rfl, hw3⟩
          obtain rfl := hw3.symm
          go_wp2
          go_ret2
          exact ⟨_, rfl, M, v', c', L, HPL.out, HB2.out⟩
      · have q2d : ((Ny : Int) == 1) = false := by simpa using q2
        clear BL
        go_wp2_with fail
        refine nm.mono ?_; rintro e w3 ⟨rfl, hw3⟩
        obtain rfl := hw3.symm
        go_wp2
        go_ret2
        exact ⟨_, rfl, M, v', c', L, HPL.out, HB2.out⟩
    · have q1d : decide ((NM : Int) < room) = false := decide_eq_false q1
      clear BL
      go_wp2_with fail
      refine nm.mono ?_; rintro e w3 ⟨rfl, hw3⟩
      obtain rfl := hw3.symm
      go_wp2
      go_ret2
      exact ⟨_, rfl, M, v', c', L, HPL.out, HB2.out⟩

set_option maxRecDepth 100000 in
set_option maxHeartbeats 2000000 in
theorem booked_2 {w0 w : World} {b bm nb : Nat} {room : Int} {D : DataW Unit} {v : Value} {c : Ct} {L : List Gm} {u : Value} {M : List Gm} (h : Bs w0 w b bm nb room D v c L u M) (hc : Fax c) (A E N : Int) (kp : Bool) (atv dv : Value) (xs ys : List Int) (hr : RdI w0 atv xs) (hd : Rd w0 dv ys) (hnb : (nb : Int) ≤ 4611686018426) :
    Calls Try.prog 36 #[.pointer (some ⟨b, 0, none⟩), u, .agg #[.int .i64 2, .int .i64 A, .int .i64 E, .int .i64 N, .bool kp, atv, dv], .int .i64 room] w fun e w' => ∃ u', e = .returned (.tuple #[u', .bool true]) ∧ ∃ M' v' c' L', PlR 2 c L c' L' ∧ Bs w0 w' b bm nb room D v' c' L' u' M' := by
  have mixed : Try.prog.follows .mixedOrders = true := by kernel_rfl
  obtain ⟨i0, hi, hz0, hz1, hz2⟩ := info_parts info94
  have K1 := (Kp.alloc w (.cells #[.int .i64 2, .int .i64 A, .int .i64 E, .int .i64 N, .bool kp, atv, dv] 55) Nu).drew
  have SE := inject_r (h.nu K1).nt (A % 256) (E % 256) (by omega) (by omega) (by omega) (by omega) dv ys ((hd.nu h.kp).nu K1) hc.far
  have HH := hide h
  have HD := hide hd
  have hlen := h.len
  have hlen4 := h.len4
  obtain ⟨ad, cap, hu⟩ := own_slice h.own
  obtain ⟨ad1, c1, e1⟩ := hr.slice
  obtain ⟨ad2, c2, e2⟩ := hd.slice
  obtain ⟨NM, hNM⟩ : ∃ N, M.length = N := ⟨_, rfl⟩
  obtain ⟨Ny, hNy⟩ : ∃ N, ys.length = N := ⟨_, rfl⟩
  have HNM := hide hNM
  rw [hNM] at hu hlen hlen4
  rw [hNy] at e2
  have HLEN := hide hlen
  clear hlen hNM
  have HUE := hide hu
  have HDE := hide e2
  have HNy := hide hNy
  subst hu e1 e2
  generalize xs.length = Nx at *
  clear hr hd h
  go_enter Try.func36, Try.ntmps36
  go_wp2_with fail
  go_region
  go_wp2_with fail
  refine SE.mono ?_
  rintro e w2 ⟨code, rfl, hS⟩
  have hsz : w.heap.size < (w.alloc (.cells #[.int .i64 2, .int .i64 A, .int .i64 E, .int .i64 N, .bool kp, .slice ad1 Nx c1, .slice ad2 Ny c2] 55)).drew.heap.size := by simp [World.drew]
  have HBX : Hid (∀ v', Fr b bm v (w.alloc (.cells #[.int .i64 2, .int .i64 A, .int .i64 E, .int .i64 N, .bool kp, .slice ad1 Nx c1, .slice ad2 Ny c2] 55)).drew w2 v' → w2.heap[w.heap.size]? = some (.cells #[.int .i64 2, .int .i64 A, .int .i64 E, .int .i64 N, .bool kp, .slice ad1 Nx c1, .slice ad2 Ny c2] 55 (0, 0))) := fun v' hF =>
    (hF.kp.block _ hsz (fun hf => by have := HH.out.nt.lt _ hf; omega)).trans (heap_alloc_new w _)
  clear SE
  rcases hS with ⟨rfl, hy4, c', v', d', hpl, hN2, hF2, hroom⟩ | ⟨hcode, c', v', hpl, hN2, hF2, himp⟩
  · have hbx := HBX.out v' hF2
    have y6 : w2.cell? ⟨w.heap.size, 6, none⟩ = some (.slice ad2 Ny c2) := by simp only [World.cell?, hbx]; rfl
    obtain ⟨ho, hkk⟩ := (HH.out.nu K1).fr hN2 hF2
    rw [HNM.out] at ho
    have HX := hide (And.intro hN2 (And.intro hkk (And.intro ho hpl)))
    have hg2 : w0.heap.size ≤ w2.heap.size := hkk.size
    have HR := hide (ho.alloc (.cells #[.int .u8 (A % 256), .int .u8 (E % 256), .slice ad2 Ny c2] 94))
    have HT := hide (cell_three_new w2 (.int .u8 (A % 256)) (.int .u8 (E % 256)) (.slice ad2 Ny c2) 94)
    clear hbx ho hkk hN2 hF2 hpl HBX hsz K1
    go_wp2_with fail
    refine (num_any 0 _).mono ?_; rintro e w3 ⟨rfl, hw3⟩
    obtain rfl := hw3.symm
    clear hw3
    go_wp2_with (first
      | (at_builtin; refine wpList_append_own _ rfl _ _ 64 rfl w0.heap.size 94 i0 (.agg #[.int .u8 0, .int .u8 0, .slice none 0 0]) 3 32 Try.underlying64 hi hz0 hz1 hz2 rfl (by decide) _ _ _ rfl HR.out ⟨w2.heap.size, 0, none⟩ 1 1 [.int .u8 (A % 256), .int .u8 (E % 256), .slice ad2 Ny c2] rfl rfl HT.out (by simp [Value.oneCell']) (by unfold maxLen; omega) (by omega) (by simp; omega) ?_; intro v3 w3 hown' hg3 hnil3; obtain ⟨ad3, cp3, ev3⟩ := own_slice hown'; have HO := hide hown'; have HG3 := hide hg3; subst ev3; clear hown' hg3 hnil3)
      | go_in)
    go_ret2
    refine ⟨_, rfl, M ++ [⟨A % 256, E % 256, .slice ad2 Ny c2, ys⟩], v', c', _, HX.out.2.2.2, ?_⟩
    have k3 : Kp (fun k => some k = (Value.slice ad NM cap).ownBlock) w2 w3 := ((Kp.alloc w2 _ Nu).mono (fun _ _ h => h.elim)).trans (Kp.of_grown HG3.out) (fun _ _ h => h)
    have hty : ∀ g, some g = (Value.slice ad NM cap).ownBlock → ¬ fp b bm v' g ∧ w0.heap.size ≤ g := fun g hg => by
      obtain ⟨cur, hcur⟩ := own_obj HX.out.2.2.1 hg.symm
      exact ⟨HX.out.1.at94 hcur, (HX.out.2.2.1.lt g hg.symm).1⟩
    refine ⟨?_, ?_, ?_, ?_, ?_⟩
    · exact HX.out.1.keep k3 (fun i hi e => ⟨(hty i e).1, fun cur hcur => by obtain ⟨cur', hc'⟩ := own_obj HX.out.2.2.1 e.symm; rw [hc'] at hcur; cases hcur⟩)
    · exact HX.out.2.1.trans k3 (fun i hi e => by have := (hty i e).2; omega)
    · have h1 := HO.out
      have hl2 : (M ++ [(⟨A % 256, E % 256, .slice ad2 Ny c2, ys⟩ : Gm)]).length = NM + 1 := by rw [← HNM.out]; simp
      rw [hl2]
      have hcc : cells (M ++ [(⟨A % 256, E % 256, .slice ad2 Ny c2, ys⟩ : Gm)]) = cells M ++ [.int .u8 (A % 256), .int .u8 (E % 256), .slice ad2 Ny c2] := by simp [cells, Gm.cells]
      rw [hcc]
      exact h1
    · intro g hg
      rcases List.mem_append.1 hg with hg | hg
      · exact HH.out.dat g hg
      · simp at hg; subst hg
        exact ⟨HD.out, hy4, by dsimp only; omega, by dsimp only; omega, by dsimp only; omega, by dsimp only; omega⟩
    · simp only [List.map_append, List.map_cons, List.map_nil]
      rw [HH.out.same]
      rfl
  · have hbx := HBX.out v' hF2
    have y6 : w2.cell? ⟨w.heap.size, 6, none⟩ = some (.slice ad2 Ny c2) := by simp only [World.cell?, hbx]; rfl
    have y0 : w2.cell? ⟨w.heap.size, 0, none⟩ = some (.int .i64 2) := by simp only [World.cell?, hbx]; rfl
    obtain ⟨ho, hkk⟩ := (HH.out.nu K1).fr hN2 hF2
    have HB2 : Hid (Bs w0 w2 b bm nb room D v' c' L (.slice ad NM cap) M) := ⟨hN2, hkk, ho, HH.out.dat, HH.out.same⟩
    have BL := blocked_any hN2 hnb
    have hcd : (code == 0) = false := by simpa using hcode
    have nm := num_any code w2
    have HPL := hide hpl
    have HIMP := hide himp
    clear hbx ho hkk hN2 hF2 hpl HBX hsz K1 himp hcode
    by_cases q1 : (NM : Int) < room
    · have q1d : decide ((NM : Int) < room) = true := decide_eq_true q1
      by_cases q2 : (Ny : Int) = 1
      · have q2d : ((Ny : Int) == 1) = true := by simpa using q2
        by_cases q3 : A % 256 < 33
        · have q3d : decide (A % 256 < 33) = true := decide_eq_true q3
          clear BL
          go_wp2_with fail
          refine nm.mono ?_; rintro e w3 ⟨rfl, hw3⟩
          obtain rfl := hw3.symm
          go_wp2
          go_ret2
          exact ⟨_, rfl, M, v', c', L, HPL.out, HB2.out⟩
        · have q3d : decide (A % 256 < 33) = false := decide_eq_false q3
          have hbar := HIMP.out (by have := HLEN.out; omega) (by have := HNy.out; omega) ⟨fun h => absurd h q3, fun h => absurd h (by decide)⟩
          go_wp2_with fail
          refine nm.mono ?_; rintro e w3 ⟨rfl, hw3⟩
          obtain rfl := hw3.symm
          clear hw3 nm
          go_wp2_with fail
          refine BL.mono ?_; rintro e w4 ⟨ub, ss, rfl, hks, hown4, hk4⟩
          have hpos := ks_ne hks (by omega) (by omega) (by omega) (by omega) hbar
          obtain ⟨ab, cb, hub⟩ := own_slice hown4
          have HB4 := hide (HB2.out.nu hk4)
          generalize ss.length = NS at *
          have hns : (((NS : Nat) : Int) == 0) = false := by simp; omega
          subst hub
          clear BL hks hown4 hk4 hbar
          go_wp2
          go_ret2
          exact ⟨_, rfl, M, v', c', L, HPL.out, HB4.out⟩
      · have q2d : ((Ny : Int) == 1) = false := by simpa using q2
        clear BL
        go_wp2_with fail
        refine nm.mono ?_; rintro e w3 ⟨rfl, hw3⟩
        obtain rfl := hw3.symm
        go_wp2
        go_ret2
        exact ⟨_, rfl, M, v', c', L, HPL.out, HB2.out⟩
    · have q1d : decide ((NM : Int) < room) = false := decide_eq_false q1
      clear BL
      go_wp2_with fail
      refine nm.mono ?_; rintro e w3 ⟨rfl, hw3⟩
      obtain rfl := hw3.symm
      go_wp2
      go_ret2
      exact ⟨_, rfl, M, v', c', L, HPL.out, HB2.out⟩

end Go.Proofs.Ythajboipnjjgfaa.Ly
