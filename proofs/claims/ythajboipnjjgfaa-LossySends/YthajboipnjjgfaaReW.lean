import Derived.Test.YthajboipnjjgfaaReV
namespace Go.Proofs.Ythajboipnjjgfaa.Ly
open Go.RowKit Go.Maps
set_option linter.unusedVariables false
set_option linter.unusedSimpArgs false

theorem own5_nil (w : World) : w.ownsRow 0 5 1 (.slice none 0 0) ([] : List Int).length (cs []) := World.ownsRow_nil _ _ _ _
theorem own_ob {T : TypeId → Prop} {w w' : World} {B e size n : Nat} {v : Value} {xs : List Value} (h : w.ownsRow B e size v n xs) (ob : Ob T w w') (he : ¬ T e) : w'.ownsRow B e size v n xs :=
  own_keep h (fun g hg => by obtain ⟨cur, hc⟩ := own_obj h hg; exact ob.cells g cur e hc he)
section
variable {w0 w : World} {n : Value} {p : Nat} {k : Int}
set_option maxHeartbeats 1000000 in
theorem deliver_pair5 (h : Stt w0 w n p k) (hkb : k < 1599289640400) (i : Int) (keep : Bool) :
    Calls Try.prog 25 #[n, .int .i64 i, .bool keep] w fun e w' => ∃ f t u ys code, e = .returned (.tuple #[.agg #[.int .u8 f, .int .u8 t, u], .int .i64 code]) ∧ Tell f t ys ∧ (∃ B, w'.ownsRow B 5 1 u ys.length (cs ys)) ∧ Ob Tp w w' ∧ Kp Nu w0 w' ∧ ∀ W, Kp Nu w' W → Calls Try.prog 70 #[.pointer (some ⟨p, 0, none⟩), .int .i64 i, .bool keep] W fun e w'' => ∃ u2 g, e = .returned (.tuple #[.agg #[.int .i64 f, .int .i64 t, u2, .bool g], .int .i64 code]) ∧ Rd w'' u2 ys ∧ Stt w0 w'' n p (k + 1) ∧ Ob Tq W w'' := by
  rcases h with ⟨b, bm, nb, room, D, v, v2, c, L, H, bs, rfl, h⟩ | ⟨rfl, h, r⟩
  · have hH : (H.length : Int) ≤ 1599289640400 := by have := h.hk; omega
    have hfar : Far c := (h.inv.fax (by omega)).far
    have hlen := h.al.length
    cases hin : inL i L.length
    · refine (deliver_bad h.nt i keep hin).mono ?_
      rintro e w2 ⟨rfl, k2⟩
      refine ⟨0, 0, _, [], 54, rfl, Tell.none, ⟨0, own5_nil _⟩, Ob.of_nu k2, h.kp.andNu k2, fun W kW => ?_⟩
      refine (refDel_bad ((h.rn.nu k2).nu kW) hH i keep (by rw [hlen]; exact hin)).mono ?_
      rintro e w3 ⟨rfl, k3⟩
      exact ⟨_, _, rfl, rd_nil _, Stt.up (.inl ⟨_, _, _, _, _, _, _, _, _, _, _, rfl, ((h.nu k2).nu kW).nu k3⟩), Ob.of_nu k3⟩
    · have hpp : 0 ≤ i ∧ i < (L.length : Int) := by simpa [inL] using hin
      obtain ⟨P, rfl⟩ : ∃ P : Nat, i = (P : Int) := ⟨i.toNat, by omega⟩
      have hP : P < L.length := by omega
      have hg := List.getElem?_eq_getElem hP
      obtain ⟨j, hj⟩ : ∃ j, (pls 0 H)[P]? = some j := ⟨_, List.getElem?_eq_getElem (by rw [hlen]; exact hP)⟩
      obtain ⟨x, hx, hxg, ef, et, ey⟩ := h.al.at hj hg
      generalize L[P] = g at *
      have hD := h.nt.dat g (List.mem_of_getElem? hg)
      have hDx := h.rn.dat x (List.mem_of_getElem? hx)
      have hbe := h.br g.f g.t hD.f0 hD.f1 hD.t0 hD.t1
      cases hb : bar D g.f g.t
      · rw [hb] at hbe
        have hbx : bs (x.f.toNat * 256 + x.t.toNat) = false := by rw [ef, et]; exact hbe.symm
        cases keep
        · refine (deliver_take h.nt P hg hb hfar).mono ?_
          rintro e w2 ⟨a, m, cap, rfl, hO, v', hN, hF⟩
          have kw := kp_fr h.kp h.nt hF
          have rw2 := rn_fr h.nt h.rn hF
          refine ⟨g.f, g.t, _, g.ys, 0, rfl, hD.tell, ⟨_, hO⟩, Ob.of_fr h.nt hF, kw, fun W kW => ?_⟩
          have hRW := rw2.nu kW
          refine (refDel_take hRW hH hfar P j hj hx hbx).mono ?_
          rintro e w3 ⟨rfl, r3, f3⟩
          refine ⟨x.d, x.gone, by rw [ef, et], ?_, .inl ⟨_, _, _, _, _, _, _, _, _, _, _, rfl, Lv.fin (kw.andNu kW) (hN.nu kW) hRW r3 f3 ?_ h.br (h.inv.step (kind := 3) (.took P hP)) (by have := h.hk; rw [goneAt_length]; omega) (by have := h.nbk; omega)⟩, Ob.of_fq hRW f3⟩
          · have hd3 := r3.dat { x with gone := true } (List.mem_of_getElem? (goneAt_same hx))
            rw [← ey]
            exact Rd.of_own hd3.own
          · rw [cut_sift L P 0]
            refine Mk.al H _ L (fun i => false || decide (i = j)) _ 0 0 ((Mk.refl H).one j) h.al (fun m j' g' hm hg' => ?_)
            simp only [Bool.false_or, Nat.sub_zero, Nat.zero_add]
            have hnd := pls_nodup H 0
            by_cases e : m = P
            · subst e
              rw [hj] at hm
              obtain rfl : j = j' := by simpa using hm
              simp
            · have : j' ≠ j := fun e' => by
                subst e'
                have h1 := (List.getElem?_eq_some_iff.1 hm)
                have h2 := (List.getElem?_eq_some_iff.1 hj)
                obtain ⟨l1, q1⟩ := h1
                obtain ⟨l2, q2⟩ := h2
                exact e (nodup_idx hnd l1 l2 (q1.trans q2.symm))
              simp [e, this]
        · refine (deliver_keep h.nt P hg hb hfar).mono ?_
          rintro e w2 ⟨a, m, cap, rfl, hO, hN, hF⟩
          have kw := kp_fr h.kp h.nt hF
          have rw2 := rn_fr h.nt h.rn hF
          refine ⟨g.f, g.t, _, g.ys, 0, rfl, hD.tell, ⟨_, hO⟩, Ob.of_fr h.nt hF, kw, fun W kW => ?_⟩
          have hRW := rw2.nu kW
          refine (refDel_keep hRW hH hfar P j hj hx hbx).mono ?_
          rintro e w3 ⟨rfl, r3, f3⟩
          refine ⟨x.d, x.gone, by rw [ef, et], ?_, .inl ⟨_, _, _, _, _, _, _, _, _, _, _, rfl, Lv.fin (kw.andNu kW) (hN.nu kW) hRW r3 f3 h.al h.br (h.inv.step (kind := 3) .kept) (by have := h.hk; omega) (by have := h.nbk; omega)⟩, Ob.of_fq hRW f3⟩
          have hd3 := r3.dat x (List.mem_of_getElem? hx)
          rw [← ey]
          exact Rd.of_own hd3.own
      · rw [hb] at hbe
        have hbx : bs (x.f.toNat * 256 + x.t.toNat) = true := by rw [ef, et]; exact hbe.symm
        refine (deliver_bar h.nt P keep hg hb).mono ?_
        rintro e w2 ⟨rfl, k2⟩
        refine ⟨0, 0, _, [], 53, rfl, Tell.none, ⟨0, own5_nil _⟩, Ob.of_nu k2, h.kp.andNu k2, fun W kW => ?_⟩
        refine (refDel_bar ((h.rn.nu k2).nu kW) hH P j keep hj hx hbx).mono ?_
        rintro e w3 ⟨rfl, k3⟩
        exact ⟨_, _, rfl, rd_nil _, Stt.up (.inl ⟨_, _, _, _, _, _, _, _, _, _, _, rfl, ((h.nu k2).nu kW).nu k3⟩), Ob.of_nu k3⟩
  · refine (deliver_nil w i keep).mono ?_
    rintro e w2 ⟨rfl, k2⟩
    refine ⟨0, 0, _, [], 1, rfl, Tell.none, ⟨0, own5_nil _⟩, Ob.of_nu k2, h.andNu k2, fun W kW => ?_⟩
    refine (refDel_no ((r.nu k2).nu kW) i keep).mono ?_
    rintro e w3 ⟨rfl, k3⟩
    exact ⟨_, _, rfl, rd_nil _, .inr ⟨rfl, ((h.andNu k2).andNu kW).andNu k3, ((r.nu k2).nu kW).nu k3⟩, Ob.of_nu k3⟩


set_option maxRecDepth 100000 in
set_option maxHeartbeats 600000 in
theorem moves_3 (h : Stt w0 w n p k) (hkb : k < 1599289640400) (A E P : Int) (kp : Bool) (atv dv : Value) (xs ys : List Int) (hr : RdI w0 atv xs) (hd : Rd w0 dv ys) (hb1 : ys.length ≤ 140737488351232) (hb2 : xs.length ≤ 17592186043904) (hnil : atv = .slice none 0 0 ∨ ∃ a n cap, atv = .slice (some a) n cap) :
    Calls Try.prog 58 #[n, .pointer (some ⟨p, 0, none⟩), .agg #[.int .i64 3, .int .i64 A, .int .i64 E, .int .i64 P, .bool kp, atv, dv]] w fun e w' => e = .returned (.bool true) ∧ Stt w0 w' n p (k + 1) := by
  have mixed : Try.prog.follows .mixedOrders = true := by kernel_rfl
  have K1 := (Kp.alloc w (.cells #[.int .i64 3, .int .i64 A, .int .i64 E, .int .i64 P, .bool kp, atv, dv] 55) Nu).drew
  have hX : (w.alloc (.cells #[.int .i64 3, .int .i64 A, .int .i64 E, .int .i64 P, .bool kp, atv, dv] 55)).drew.heap[w.heap.size]? = some (.cells #[.int .i64 3, .int .i64 A, .int .i64 E, .int .i64 P, .bool kp, atv, dv] 55 (0, 0)) := heap_alloc_new w _
  have h1 := h.nu K1
  obtain ⟨na, hna⟩ := h.ptr
  obtain ⟨ad1, cap1, ea⟩ := hr.slice
  obtain ⟨ad2, cap2, ed⟩ := hd.slice
  have DP := deliver_pair5 h1 hkb P kp
  have AL := @alike_any
  have NU := num_any
  have HHX := hide hX
  clear hX hr hb1 hb2 hnil h1 K1 hd
  subst hna ea ed
  clear h
  generalize xs.length = N1 at *
  generalize hN2 : ys.length = N2 at *
  go_enter Try.func58, Try.ntmps58
  go_wp2_with fail
  go_region
  go_wp2_with fail
  refine DP.mono ?_; rintro e w2 ⟨f, t, u, zs, code, rfl, hT, ⟨B5, hu⟩, ob2, k02, NX⟩
  obtain ⟨adu, capu, eu⟩ := own_slice hu
  have HU := hide hu
  have HT := hide hT
  have hX2 := (ob2.cells _ _ 55 HHX.out t55).trans HHX.out
  have hltX : w.heap.size < w2.heap.size := blk_lt hX2
  clear DP hT hu
  obtain ⟨YL, hYL⟩ : ∃ YL, zs.length = YL := ⟨_, rfl⟩
  have HYL := hide hYL
  rw [hYL] at eu
  clear hYL
  subst eu
  have kz := (Kp.refl Nu w2).andAlloc (.cells #[.int .u8 f, .int .u8 t, .slice adu YL capu] 38)
  have hXz := (kz.block _ (blk_lt hX2) (fun h => h)).trans hX2
  have cP := (c7 hXz).2.2.2.1
  have cK := (c7 hXz).2.2.2.2.1
  have cP' := (c7 hX2).2.2.2.1
  have cK' := (c7 hX2).2.2.2.2.1
  have NX1 := NX _ kz
  have HKZ := hide kz
  clear NX ob2 k02 hX2 hXz kz
  go_wp2_with fail
  refine NX1.mono ?_; rintro e w3 ⟨u2, g, rfl, hu2, st, ob3⟩
  obtain ⟨adv, capv, ev⟩ := hu2.slice
  have hcc : (code == code) = true := by simp
  have hbx2 : (w2.alloc (.cells #[.int .u8 f, .int .u8 t, .slice adu YL capu] 38)).heap[w2.heap.size]? = some (.cells #[.int .u8 f, .int .u8 t, .slice adu YL capu] 38 (0, 0)) := heap_alloc_new w2 _
  have hbx3 := (ob3.cells _ _ 38 hbx2 s38).trans hbx2
  have hlt3 : w2.heap.size < w3.heap.size := blk_lt hbx3
  have nX : w3.heap.size ≠ w2.heap.size := by omega
  have ka := (Kp.refl Nu w3).andAlloc (.cells #[.int .i64 f, .int .i64 t, u2, .bool g] 120)
  have hu3 : Rd w3 (.slice adu YL capu) zs := Rd.of_own (own_ob (own_keep HU.out (fun g hg => HKZ.out.block g (own_lt HU.out hg) (fun h => h))) ob3 s5)
  have AL1 := AL (w := w3.alloc (.cells #[.int .i64 f, .int .i64 t, u2, .bool g] 120)) (u1 := .slice adu YL capu) (u2 := u2) (ys := zs) f t HT.out.f0 HT.out.f1 HT.out.t0 HT.out.t1 g (hu3.nu ka) (hu2.nu ka) HT.out.le
  have hbx := (ka.block _ (blk_lt hbx3) (fun h => h)).trans hbx3
  obtain ⟨d0, d1, d2⟩ := cell3 hbx
  have HST := hide (st.nu ka)
  rw [HYL.out] at ev
  subst ev
  clear NX1 hu2 hu3 ob3 st ka hbx hbx2 hbx3 AL
  go_wp2_with fail
  refine (NU _ _).mono ?_; rintro e w4 ⟨rfl, hw4⟩
  obtain rfl := hw4.symm
  clear hw4
  go_wp2_with fail
  refine AL1.mono ?_; rintro e w5 ⟨rfl, k5⟩
  have HS5 := hide (HST.out.nu k5)
  clear AL1 k5
  go_wp2
  go_ret
  exact ⟨rfl, HS5.out⟩

set_option maxRecDepth 100000 in
set_option maxHeartbeats 600000 in
theorem moves_5 (h : Stt w0 w n p k) (hkb : k < 1599289640400) (A E P : Int) (kp : Bool) (atv dv : Value) (xs ys : List Int) (hr : RdI w0 atv xs) (hd : Rd w0 dv ys) (hb1 : ys.length ≤ 140737488351232) (hb2 : xs.length ≤ 17592186043904) (hnil : atv = .slice none 0 0 ∨ ∃ a n cap, atv = .slice (some a) n cap) :
    Calls Try.prog 58 #[n, .pointer (some ⟨p, 0, none⟩), .agg #[.int .i64 5, .int .i64 A, .int .i64 E, .int .i64 P, .bool kp, atv, dv]] w fun e w' => e = .returned (.bool true) ∧ Stt w0 w' n p (k + 1) := by
  have mixed : Try.prog.follows .mixedOrders = true := by kernel_rfl
  have K1 := (Kp.alloc w (.cells #[.int .i64 5, .int .i64 A, .int .i64 E, .int .i64 P, .bool kp, atv, dv] 55) Nu).drew
  have hX : (w.alloc (.cells #[.int .i64 5, .int .i64 A, .int .i64 E, .int .i64 P, .bool kp, atv, dv] 55)).drew.heap[w.heap.size]? = some (.cells #[.int .i64 5, .int .i64 A, .int .i64 E, .int .i64 P, .bool kp, atv, dv] 55 (0, 0)) := heap_alloc_new w _
  have h1 := h.nu K1
  obtain ⟨na, hna⟩ := h.ptr
  obtain ⟨ad1, cap1, ea⟩ := hr.slice
  obtain ⟨ad2, cap2, ed⟩ := hd.slice
  have IA := ints_any (hr.nu h1.kp) hb2 hnil
  have EQ := @equal_any
  have NU := num_any
  have DP := fun (W : World) (hs : Stt w0 W n p k) (v : Value) (hv : RdI W v xs) => drop_pair hs hkb v atv xs hv hr (by omega)
  have HH1 := hide h1
  have HHX := hide hX
  have HR := hide hr
  have HB2 := hide hb2
  clear hX hb1 hb2 hnil h1 K1 hd hr
  subst hna ea ed
  clear h
  generalize hN1 : xs.length = N1 at *
  generalize hN2 : ys.length = N2 at *
  go_enter Try.func58, Try.ntmps58
  go_wp2_with fail
  go_region
  go_wp2_with fail
  refine IA.mono ?_; rintro e w2 ⟨v, rfl, hv, k2⟩
  have hsl := own_slice hv
  have D1 := DP w2 (HH1.out.nu k2) v (RdI.of_own hv)
  have hX2 := (k2.block _ (blk_lt HHX.out) (fun h => h)).trans HHX.out
  have HV := hide hv
  obtain ⟨av, cv, ev⟩ := hsl
  clear IA DP hv k2
  subst ev
  go_wp2_with fail
  refine D1.mono ?_; rintro e w3 ⟨q, er, rfl, ob3, k03, NX⟩
  have NX1 := NX _ (Kp.refl _ _)
  have hX3 := (ob3.cells _ _ 55 hX2 t55).trans hX2
  have c5 := (c7 hX3).2.2.2.2.2.1
  have HV3 := hide (own_ob HV.out ob3 t3)
  have hqq : (q == q) = true := by simp
  have hee : (er == er) = true := by simp
  clear D1 NX hX2 ob3 k03
  go_wp2_with fail
  refine NX1.mono ?_; rintro e w4 ⟨rfl, st, ob4⟩
  have hX4 := (ob4.cells _ _ 55 hX3 s55).trans hX3
  have c5' := (c7 hX4).2.2.2.2.2.1
  have EQ1 := EQ (w := w4) (xs := xs) (RdI.of_own (own_ob HV3.out ob4 s3)) (HR.out.nu st.kp) (by have := HB2.out; omega)
  have HST := hide st
  clear NX1 hX3 hX4 ob4 st c5 EQ
  go_wp2_with fail
  refine (NU _ _).mono ?_; rintro e w4' ⟨rfl, hw4⟩
  obtain rfl := hw4.symm
  clear hw4
  go_wp2_with fail
  refine EQ1.mono ?_; rintro e w5 ⟨rfl, k5⟩
  have HS5 := hide (HST.out.nu k5)
  clear EQ1 k5
  go_wp2
  go_ret
  exact ⟨rfl, HS5.out⟩
end
end Go.Proofs.Ythajboipnjjgfaa.Ly
