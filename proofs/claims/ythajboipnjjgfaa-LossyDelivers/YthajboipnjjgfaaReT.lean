import Derived.Test.YthajboipnjjgfaaReS
namespace Go.Proofs.Ythajboipnjjgfaa.Ly
open Go.RowKit Go.Maps
set_option linter.unusedVariables false
set_option linter.unusedSimpArgs false

theorem link_at {w : World} {B n : Nat} {u : Value} {ps : List (Int × Int)} (h : w.ownsRow B 86 2 u n (ecs ps)) {i : Nat} {q : Int × Int} (hi : ps[i]? = some q) : ∃ r cap, u = .slice (some ⟨r, 0, none⟩) n cap ∧ w.cell? ⟨r, i * 2, none⟩ = some (.int .u8 q.1) ∧ w.cell? ⟨r, i * 2 + 1, none⟩ = some (.int .u8 q.2) := by
  have hlt : i < ps.length := (List.getElem?_eq_some_iff.1 hi).1
  have hn : n = ps.length := by have := h.1; rw [ecs_len] at this; omega
  rcases h.2 with ⟨_, h0⟩ | ⟨r, cap, cur, e, hB, hg, h1, h2, h3, h4⟩
  · omega
  · have key : ∀ j, j < 2 → cur[i * 2 + j]? = (encL q)[j]? := by
      intro j hj
      have e1 := ecs_get ps (i * 2 + j)
      rw [show (i * 2 + j) / 2 = i by omega, show (i * 2 + j) % 2 = j by omega, hi] at e1
      rw [← h4, List.getElem?_take_of_lt (by omega)] at e1
      simpa using e1
    refine ⟨r, cap, e, ?_, ?_⟩
    · have := key 0 (by omega)
      simpa [World.cell?, hg, encL] using this
    · have := key 1 (by omega)
      simpa [World.cell?, hg, encL] using this
theorem pcs_get (xs : List Nat) : ∀ t, (pcs xs)[t]? = (xs[t / 2]?).bind (fun k => [Value.int .i64 ((k / 256 : Nat) : Int), .int .i64 ((k % 256 : Nat) : Int)][t % 2]?) := by
  induction xs with
  | nil => intro t; simp [pcs]
  | cons p r ih =>
    intro t
    have e : pcs (p :: r) = .int .i64 ((p / 256 : Nat) : Int) :: .int .i64 ((p % 256 : Nat) : Int) :: pcs r := rfl
    rw [e]
    match t with
    | 0 => rfl
    | 1 => rfl
    | t + 2 =>
      have h1 : (t + 2) / 2 = t / 2 + 1 := by omega
      have h2 : (t + 2) % 2 = t % 2 := by omega
      rw [List.getElem?_cons_succ, List.getElem?_cons_succ, ih, h1, h2, List.getElem?_cons_succ]
theorem pair_at {w : World} {B n : Nat} {u : Value} {xs : List Nat} (h : w.ownsRow B 139 2 u n (pcs xs)) {i x : Nat} (hi : xs[i]? = some x) : ∃ r cap, u = .slice (some ⟨r, 0, none⟩) n cap ∧ w.cell? ⟨r, i * 2, none⟩ = some (.int .i64 ((x / 256 : Nat) : Int)) ∧ w.cell? ⟨r, i * 2 + 1, none⟩ = some (.int .i64 ((x % 256 : Nat) : Int)) := by
  have hlt : i < xs.length := (List.getElem?_eq_some_iff.1 hi).1
  have hn : n = xs.length := by have := h.1; rw [pcs_length] at this; omega
  rcases h.2 with ⟨_, h0⟩ | ⟨r, cap, cur, e, hB, hg, h1, h2, h3, h4⟩
  · omega
  · have key : ∀ j, j < 2 → cur[i * 2 + j]? = [Value.int .i64 ((x / 256 : Nat) : Int), .int .i64 ((x % 256 : Nat) : Int)][j]? := by
      intro j hj
      have e1 := pcs_get xs (i * 2 + j)
      rw [show (i * 2 + j) / 2 = i by omega, show (i * 2 + j) % 2 = j by omega, hi] at e1
      rw [← h4, List.getElem?_take_of_lt (by omega)] at e1
      simpa using e1
    refine ⟨r, cap, e, ?_, ?_⟩
    · have := key 0 (by omega)
      simpa [World.cell?, hg] using this
    · have := key 1 (by omega)
      simpa [World.cell?, hg] using this
section
variable {w0 w : World} {n : Value} {p : Nat} {k : Int}

set_option maxRecDepth 100000 in
set_option maxHeartbeats 2000000 in
theorem asks_10 (h : Stt w0 w n p k) (hkb : k < 1599289640400) (A E P : Int) (kp : Bool) (atv dv : Value) (ad1 ad2 : Option Addr) (n1 n2 cap1 cap2 : Nat) (ea : atv = .slice ad1 n1 cap1) (ed : dv = .slice ad2 n2 cap2) :
    Calls Try.prog 78 #[n, .pointer (some ⟨p, 0, none⟩), .agg #[.int .i64 10, .int .i64 A, .int .i64 E, .int .i64 P, .bool kp, atv, dv]] w fun e w' => e = .returned (.bool true) ∧ Kp Nu w w' := by
  have mixed : Try.prog.follows .mixedOrders = true := by kernel_rfl
  have K1 := Kp.alloc w (.cells #[.int .i64 10, .int .i64 A, .int .i64 E, .int .i64 P, .bool kp, atv, dv] 55) Nu
  have HK1 := hide K1
  obtain ⟨na, hna⟩ := h.ptr
  have BP := blocked_pair (h.nu K1) hkb
  subst hna ea ed
  clear h K1
  go_enter Try.func78, Try.ntmps78
  go_wp2_with fail
  refine BP.mono ?_; rintro e w2 ⟨u, xs, rfl, hxl, hxb, ho, k2, NX⟩
  obtain ⟨adu, capu, eu⟩ := own_slice ho
  have HO := hide ho
  have HK2 := hide k2
  have NX1 := NX _ (Kp.refl _ _)
  obtain ⟨M, hM⟩ : ∃ M, xs.length = M := ⟨_, rfl⟩
  have HM := hide hM
  have HXB := hide hxb
  rw [hM] at eu NX1 hxl
  have hMI : (M : Int) ≤ 65536 := by omega
  subst eu
  clear BP NX ho k2 hM hxl hxb
  go_wp2_with fail
  refine NX1.mono ?_; rintro e w3 ⟨u2, rfl, ho2, k3⟩
  obtain ⟨ad2', cap2', eu2⟩ := own_slice ho2
  have HO2 := hide ho2
  have HK3 := hide ((HK1.out.andNu HK2.out).andNu k3)
  have HOk : Hid (w3.ownsRow _ 86 2 _ xs.length (ecs (xs.map pr))) := own_keep HO.out (fun g hg => k3.block g (own_lt HO.out hg) (fun h => h))
  have hMM : ((M : Int) != (M : Int)) = false := by simp
  subst eu2
  clear NX1 ho2 k3 HO
  go_wp2_with fail
  go_loopw [13] (fun i wr => ∃ (j q : Nat), j ≤ M ∧ i = .int .i64 (j : Int) ∧ wr = w3.drewN q) (fun i _ => M - (intOf i).toNat)
  case atStart => exact ⟨0, 0, by omega, rfl, rfl⟩
  case round =>
    obtain ⟨j, q, hj, rfl, rfl⟩ := hrel
    by_cases hlt : j < M
    · have hjl : j < xs.length := by rw [HM.out]; exact hlt
      obtain ⟨x, hx⟩ : ∃ x, xs[j]? = some x := ⟨_, List.getElem?_eq_getElem hjl⟩
      have hltI : (j : Int) < (M : Int) := by omega
      have hj0 : (0 : Int) ≤ (j : Int) := by omega
      obtain ⟨r1, c1, e1, z0, z1⟩ := link_at HOk.out (i := j) (q := pr x) (by simp [hx])
      obtain ⟨r2, c2, e2, y0, y1⟩ := pair_at HO2.out hx
      have hxb := HXB.out x (List.mem_of_getElem? hx)
      rw [HM.out] at e1
      simp only [Value.slice.injEq] at e1 e2
      obtain ⟨p1, p2, p3⟩ := e1
      obtain ⟨q1, q2, q3⟩ := e2
      clear p2 q2 p3 q3
      subst p1 q1
      unfold pr at z0 z1
      simp only at z0 z1
      obtain ⟨X, hX⟩ : ∃ X : Int, ((x / 256 : Nat) : Int) = X := ⟨_, rfl⟩
      obtain ⟨Y, hY⟩ : ∃ Y : Int, ((x % 256 : Nat) : Int) = Y := ⟨_, rfl⟩
      have x0 : 0 ≤ X := by omega
      have x1 : X < 256 := by omega
      have yy0 : 0 ≤ Y := by omega
      have yy1 : Y < 256 := by omega
      rw [hX] at z0 y0
      rw [hY] at z1 y1
      have n1 : (X != X) = false := by simp
      have n2 : (Y != Y) = false := by simp
      clear hX hY hx hjl hxb
      go_wp2_with fail
      go_quiet (fail)
      go_wp2
      exact ⟨⟨j + 1, q + nq, by omega, by go_num, rfl⟩, by simp [intOf]; omega⟩
    · have hge : ¬ (j : Int) < (M : Int) := by omega
      go_wp2
      go_ret
      exact ⟨rfl, HK3.out.andNu (kp_drewN _ _)⟩

set_option maxRecDepth 100000 in
set_option maxHeartbeats 2000000 in
theorem asks_12 (h : Stt w0 w n p k) (hkb : k < 1599289640400) (A E P : Int) (kp : Bool) (atv dv : Value) (ad1 ad2 : Option Addr) (n1 n2 cap1 cap2 : Nat) (ea : atv = .slice ad1 n1 cap1) (ed : dv = .slice ad2 n2 cap2) :
    Calls Try.prog 78 #[n, .pointer (some ⟨p, 0, none⟩), .agg #[.int .i64 12, .int .i64 A, .int .i64 E, .int .i64 P, .bool kp, atv, dv]] w fun e w' => e = .returned (.bool true) ∧ Kp Nu w w' := by
  have mixed : Try.prog.follows .mixedOrders = true := by kernel_rfl
  have K1 := Kp.alloc w (.cells #[.int .i64 12, .int .i64 A, .int .i64 E, .int .i64 P, .bool kp, atv, dv] 55) Nu
  have HK1 := hide K1
  obtain ⟨na, hna⟩ := h.ptr
  have LP := list_pair (h.nu K1) hkb
  have AL := @alike_any
  subst hna ea ed
  clear h K1
  go_enter Try.func78, Try.ntmps78
  go_wp2_with fail
  refine LP.mono ?_; rintro e w2 ⟨u, Lp, Lr, rfl, hxl, ho, hdp, hT, k2, NX⟩
  obtain ⟨adu, capu, eu⟩ := own_slice ho
  have HO := hide ho
  have HK2 := hide k2
  have NX1 := NX _ (Kp.refl _ _)
  obtain ⟨M, hM⟩ : ∃ M, Lp.length = M := ⟨_, rfl⟩
  have HM := hide hM
  have HT := hide hT
  have HDP := hide hdp
  have hLr : Lr.length = M := by rw [← hT.len]; exact hM
  have HLr := hide hLr
  rw [hM] at eu hxl
  rw [hLr] at NX1
  have hMI : (M : Int) ≤ 4096 := by omega
  subst eu
  clear LP NX ho k2 hM hxl hT hdp hLr
  go_wp2_with fail
  refine NX1.mono ?_; rintro e w3 ⟨u2, rfl, ho2, hdr, k3⟩
  obtain ⟨ad2', cap2', eu2⟩ := own_slice ho2
  have HO2 := hide ho2
  have HDR := hide hdr
  have HK3 := hide ((HK1.out.andNu HK2.out).andNu k3)
  have HOk : Hid (w3.ownsRow _ 38 3 _ Lp.length (cells Lp)) := own_keep HO.out (fun g hg => k3.block g (own_lt HO.out hg) (fun h => h))
  have HDPk : Hid (∀ g ∈ Lp, Dg w3 _ g) := fun g hg => (HDP.out g hg).nu k3
  have hMM : ((M : Int) != (M : Int)) = false := by simp
  subst eu2
  clear NX1 ho2 k3 HO hdr HDP
  go_wp2_with fail
  go_loopw [16] (fun i wr => ∃ j : Nat, j ≤ M ∧ i = .int .i64 (j : Int) ∧ Hid (Kp Nu w3 wr)) (fun i _ => M - (intOf i).toNat)
  case atStart => exact ⟨0, by omega, rfl, Kp.refl _ _⟩
  case round =>
    obtain ⟨j, hj, rfl, hkr⟩ := hrel
    by_cases hlt : j < M
    · have hjl : j < Lp.length := by rw [HM.out]; exact hlt
      have hjr : j < Lr.length := by rw [HLr.out]; exact hlt
      obtain ⟨g, hg⟩ : ∃ g, Lp[j]? = some g := ⟨_, List.getElem?_eq_getElem hjl⟩
      obtain ⟨x, hx⟩ : ∃ x, Lr[j]? = some x := ⟨_, List.getElem?_eq_getElem hjr⟩
      obtain ⟨ef, et, ey⟩ := HT.out.at' j g x hg hx
      have hltI : (j : Int) < (M : Int) := by omega
      have hj0 : (0 : Int) ≤ (j : Int) := by omega
      have hD := HDPk.out g (List.mem_of_getElem? hg)
      have hDx := HDR.out x (List.mem_of_getElem? hx)
      obtain ⟨kd, capd, hgd⟩ := hD.slice
      obtain ⟨kx, capx, hxd⟩ := hDx.slice
      have hxd' : x.d = .slice (some ⟨kx, 0, none⟩) x.ys.length capx := hxd
      have AL1 : ∀ W, Kp Nu wr W → Calls Try.prog 71 #[.agg #[.int .u8 g.f, .int .u8 g.t, g.d], .agg #[.int .i64 g.f, .int .i64 g.t, x.d, .bool x.gone]] W fun e w' => e = .returned (.bool true) ∧ Kp Nu wr w' := fun W kW => by
        have kk := hkr.out.andNu kW
        refine (AL (w := W) (u1 := g.d) (u2 := x.d) (ys := g.ys) g.f g.t hD.f0 hD.f1 hD.t0 hD.t1 x.gone (Rd.of_own (hD.nu kk).own) (by rw [← ey]; exact Rd.of_own (hDx.nu kk).own) (by have := hD.le; omega)).mono ?_
        rintro e w' ⟨rfl, k'⟩
        exact ⟨rfl, kW.andNu k'⟩
      have SS : ∀ W, Kp Nu wr W → ∃ r1 c1 r2 c2, (.slice adu M capu : Value) = .slice (some ⟨r1, 0, none⟩) M c1 ∧ (.slice ad2' M cap2' : Value) = .slice (some ⟨r2, 0, none⟩) M c2 ∧ W.cell? ⟨r1, j * 3, none⟩ = some (.int .u8 g.f) ∧ W.cell? ⟨r1, j * 3 + 1, none⟩ = some (.int .u8 g.t) ∧ W.cell? ⟨r1, j * 3 + 2, none⟩ = some g.d ∧ W.cell? ⟨r2, j * 4, none⟩ = some (.int .i64 x.f) ∧ W.cell? ⟨r2, j * 4 + 1, none⟩ = some (.int .i64 x.t) ∧ W.cell? ⟨r2, j * 4 + 2, none⟩ = some x.d ∧ W.cell? ⟨r2, j * 4 + 3, none⟩ = some (.bool x.gone) := fun W kW => by
        have kk := hkr.out.andNu kW
        have o1 : W.ownsRow _ 38 3 _ Lp.length (cells Lp) := own_keep HOk.out (fun g hg => kk.block g (own_lt HOk.out hg) (fun h => h))
        have o2 : W.ownsRow w2.heap.size 120 4 (.slice ad2' M cap2') Lr.length (hcells Lr) := by
          rw [HLr.out]
          exact own_keep HO2.out (fun g hg => kk.block g (own_lt HO2.out hg) (fun h => h))
        obtain ⟨r1, c1, e1, z⟩ := row_at o1 hg
        obtain ⟨r2, c2, e2, y⟩ := hrow_at o2 hx
        rw [HM.out] at e1
        rw [HLr.out] at e2
        exact ⟨r1, c1, r2, c2, e1, e2, z.1, z.2.1, z.2.2, y.1, y.2.1, y.2.2.1, y.2.2.2⟩
      obtain ⟨r1, c1, r2, c2, e1, e2, _⟩ := SS wr (Kp.refl _ _)
      simp only [Value.slice.injEq] at e1 e2
      obtain ⟨p1, p2, p3⟩ := e1
      obtain ⟨q1, q2, q3⟩ := e2
      clear p2 q2
      subst p1 q1 p3 q3
      have HS : ∀ W, Kp Nu wr W → W.cell? ⟨r1, j * 3, none⟩ = some (.int .u8 g.f) ∧ W.cell? ⟨r1, j * 3 + 1, none⟩ = some (.int .u8 g.t) ∧ W.cell? ⟨r1, j * 3 + 2, none⟩ = some (.slice (some ⟨kd, 0, none⟩) g.ys.length capd) ∧ W.cell? ⟨r2, j * 4, none⟩ = some (.int .i64 g.f) ∧ W.cell? ⟨r2, j * 4 + 1, none⟩ = some (.int .i64 g.t) ∧ W.cell? ⟨r2, j * 4 + 2, none⟩ = some (.slice (some ⟨kx, 0, none⟩) x.ys.length capx) ∧ W.cell? ⟨r2, j * 4 + 3, none⟩ = some (.bool x.gone) := fun W kW => by
        obtain ⟨s1, t1, s2, t2, e1, e2, z⟩ := SS W kW
        simp only [Value.slice.injEq, Option.some.injEq, Addr.mk.injEq, and_true, true_and] at e1 e2
        obtain ⟨rfl, _⟩ := e1
        obtain ⟨rfl, _⟩ := e2
        rw [hgd, ef, et, hxd'] at z
        exact z
      rw [hgd, hxd'] at AL1
      have KA := Kp.refl Nu wr
      clear SS hg hx ef et ey hD hDx hgd hxd hxd' hjl hjr
      generalize g.ys.length = LY at *
      generalize x.ys.length = LX at *
      generalize g.f = F at *
      generalize g.t = T at *
      generalize x.gone = G at *
      go_wp2_with fail
      go_region_held3 (fun W => W.cell? ⟨r1, j * 3, none⟩ = some (.int .u8 F) ∧ W.cell? ⟨r1, j * 3 + 1, none⟩ = some (.int .u8 T) ∧ W.cell? ⟨r1, j * 3 + 2, none⟩ = some (.slice (some ⟨kd, 0, none⟩) LY capd) ∧ W.cell? ⟨r2, j * 4, none⟩ = some (.int .i64 F) ∧ W.cell? ⟨r2, j * 4 + 1, none⟩ = some (.int .i64 T) ∧ W.cell? ⟨r2, j * 4 + 2, none⟩ = some (.slice (some ⟨kx, 0, none⟩) LX capx) ∧ W.cell? ⟨r2, j * 4 + 3, none⟩ = some (.bool G)) (first | (refine HS _ ?_; repeat (first | assumption | exact Kp.refl _ _ | apply Kp.andAlloc | apply Kp.drew))) (first | (go_at_call 71; refine (AL1 _ ?_).mono ?_; (repeat (first | assumption | exact Kp.refl _ _ | apply Kp.andAlloc | apply Kp.drew)); rintro e w5 ⟨rfl, hk5⟩))
      have HK5 : Hid (Kp Nu w3 w5) := hkr.out.andNu hk5
      clear AL1 HS KA hk5 hkr
      go_wp2
      exact ⟨⟨j + 1, by omega, by go_num, HK5⟩, by simp [intOf]; omega⟩
    · have hge : ¬ (j : Int) < (M : Int) := by omega
      have HKe := hide (HK3.out.andNu hkr.out)
      go_wp2
      go_ret
      exact ⟨rfl, HKe.out⟩
end
end Go.Proofs.Ythajboipnjjgfaa.Ly
