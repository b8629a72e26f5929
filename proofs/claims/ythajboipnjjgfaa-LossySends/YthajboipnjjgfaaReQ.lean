import Derived.Test.YthajboipnjjgfaaReP
namespace Go.Proofs.Ythajboipnjjgfaa.Ly
open Go.RowKit Go.Maps
set_option linter.unusedVariables false
set_option linter.unusedSimpArgs false

theorem nodup_idx {α : Type} {l : List α} (h : l.Nodup) {i j : Nat} (hi : i < l.length) (hj : j < l.length) (e : l[i] = l[j]) : i = j := by
  rcases Nat.lt_trichotomy i j with hlt | heq | hgt
  · exact absurd e (List.pairwise_iff_getElem.1 h i j hi hj hlt)
  · exact heq
  · exact absurd e.symm (List.pairwise_iff_getElem.1 h j i hj hi hgt)
section
variable {w0 w : World} {n : Value} {p : Nat} {k : Int}

theorem rd_nil (w : World) : Rd w (.slice none 0 0) [] := .inl ⟨rfl, rfl⟩
/-- a datagram that was told: what the answers of both have in common -/
structure Tell (f t : Int) (ys : List Int) : Prop where
  f0 : 0 ≤ f
  f1 : f < 256
  t0 : 0 ≤ t
  t1 : t < 256
  le : ys.length ≤ 140737488355328
theorem Tell.none : Tell 0 0 [] := ⟨by omega, by omega, by omega, by omega, by simp⟩
theorem Dg.tell {B : Nat} {g : Gm} (h : Dg w B g) : Tell g.f g.t g.ys := ⟨h.f0, h.f1, h.t0, h.t1, by have := h.le; omega⟩

set_option maxHeartbeats 1000000 in
theorem deliver_pair (h : Stt w0 w n p k) (hkb : k < 1599289640400) (i : Int) (keep : Bool) :
    Calls Try.prog 25 #[n, .int .i64 i, .bool keep] w fun e w' => ∃ f t u ys code, e = .returned (.tuple #[.agg #[.int .u8 f, .int .u8 t, u], .int .i64 code]) ∧ Tell f t ys ∧ Rd w' u ys ∧ Ob Tp w w' ∧ Kp Nu w0 w' ∧ ∀ W, Kp Nu w' W → Calls Try.prog 70 #[.pointer (some ⟨p, 0, none⟩), .int .i64 i, .bool keep] W fun e w'' => ∃ u2 g, e = .returned (.tuple #[.agg #[.int .i64 f, .int .i64 t, u2, .bool g], .int .i64 code]) ∧ Rd w'' u2 ys ∧ Stt w0 w'' n p (k + 1) ∧ Ob Tq W w'' := by
  rcases h with ⟨b, bm, nb, room, D, v, v2, c, L, H, bs, rfl, h⟩ | ⟨rfl, h, r⟩
  · have hH : (H.length : Int) ≤ 1599289640400 := by have := h.hk; omega
    have hfar : Far c := (h.inv.fax (by omega)).far
    have hlen := h.al.length
    cases hin : inL i L.length
    · refine (deliver_bad h.nt i keep hin).mono ?_
      rintro e w2 ⟨rfl, k2⟩
      refine ⟨0, 0, _, [], 54, rfl, Tell.none, rd_nil _, Ob.of_nu k2, h.kp.andNu k2, fun W kW => ?_⟩
      refine (refDel_bad ((h.rn.nu k2).nu kW) hH i keep (by rw [hlen]; exact hin)).mono ?_
      rintro e w3 ⟨rfl, k3⟩
      exact ⟨_, _, rfl, rd_nil _, Stt.up (.inl ⟨_, _, _, _, _, _, _, _, _, _, _, rfl, ((h.nu k2).nu kW).nu k3⟩), Ob.of_nu k3⟩
    · have hpp : 0 ≤ i ∧ i < (L.length : Int) := by simpa [inL] using hin
      obtain ⟨P, rfl⟩ : ∃ P : Nat, i = (P : Int) := ⟨i.toNat, by omega⟩
      have hP : P < L.length := by omega
      have hg := List.getElem?_eq_getElem hP
      obtain ⟨j, hj⟩ : ∃ j, (pls 0 H)[P]? = some j := ⟨_, List.getElem?_eq_getElem (by rw [hlen]; exact hP)⟩
      obtain ⟨x, hx, hxg, ef, et, ey⟩ := h.al.at hj hg
      generalize L[P] = g at *
      have hD := h.nt.dat g (List.mem_of_getElem? hg)
      have hDx := h.rn.dat x (List.mem_of_getElem? hx)
      have hbe := h.br g.f g.t hD.f0 hD.f1 hD.t0 hD.t1
      cases hb : bar D g.f g.t
      · rw [hb] at hbe
        have hbx : bs (x.f.toNat * 256 + x.t.toNat) = false := by rw [ef, et]; exact hbe.symm
        cases keep
        · refine (deliver_take h.nt P hg hb hfar).mono ?_
          rintro e w2 ⟨a, m, cap, rfl, hO, v', hN, hF⟩
          have kw := kp_fr h.kp h.nt hF
          have rw2 := rn_fr h.nt h.rn hF
          refine ⟨g.f, g.t, _, g.ys, 0, rfl, hD.tell, Rd.of_own hO, Ob.of_fr h.nt hF, kw, fun W kW => ?_⟩
          have hRW := rw2.nu kW
          refine (refDel_take hRW hH hfar P j hj hx hbx).mono ?_
          rintro e w3 ⟨rfl, r3, f3⟩
          refine ⟨x.d, x.gone, by rw [ef, et], ?_, .inl ⟨_, _, _, _, _, _, _, _, _, _, _, rfl, Lv.fin (kw.andNu kW) (hN.nu kW) hRW r3 f3 ?_ h.br (h.inv.step (kind := 3) (.took P hP)) (by have := h.hk; rw [goneAt_length]; omega) (by have := h.nbk; omega)⟩, Ob.of_fq hRW f3⟩
          · have hd3 := r3.dat { x with gone := true } (List.mem_of_getElem? (goneAt_same hx))
            rw [← ey]
            exact Rd.of_own hd3.own
          · rw [cut_sift L P 0]
            refine Mk.al H _ L (fun i => false || decide (i = j)) _ 0 0 ((Mk.refl H).one j) h.al (fun m j' g' hm hg' => ?_)
            simp only [Bool.false_or, Nat.sub_zero, Nat.zero_add]
            have hnd := pls_nodup H 0
            by_cases e : m = P
            · subst e
              rw [hj] at hm
              obtain rfl : j = j' := by simpa using hm
              simp
            · have : j' ≠ j := fun e' => by
                subst e'
                have h1 := (List.getElem?_eq_some_iff.1 hm)
                have h2 := (List.getElem?_eq_some_iff.1 hj)
                obtain ⟨l1, q1⟩ := h1
                obtain ⟨l2, q2⟩ := h2
                exact e (nodup_idx hnd l1 l2 (q1.trans q2.symm))
              simp [e, this]
        · refine (deliver_keep h.nt P hg hb hfar).mono ?_
          rintro e w2 ⟨a, m, cap, rfl, hO, hN, hF⟩
          have kw := kp_fr h.kp h.nt hF
          have rw2 := rn_fr h.nt h.rn hF
          refine ⟨g.f, g.t, _, g.ys, 0, rfl, hD.tell, Rd.of_own hO, Ob.of_fr h.nt hF, kw, fun W kW => ?_⟩
          have hRW := rw2.nu kW
          refine (refDel_keep hRW hH hfar P j hj hx hbx).mono ?_
          rintro e w3 ⟨rfl, r3, f3⟩
          refine ⟨x.d, x.gone, by rw [ef, et], ?_, .inl ⟨_, _, _, _, _, _, _, _, _, _, _, rfl, Lv.fin (kw.andNu kW) (hN.nu kW) hRW r3 f3 h.al h.br (h.inv.step (kind := 3) .kept) (by have := h.hk; omega) (by have := h.nbk; omega)⟩, Ob.of_fq hRW f3⟩
          have hd3 := r3.dat x (List.mem_of_getElem? hx)
          rw [← ey]
          exact Rd.of_own hd3.own
      · rw [hb] at hbe
        have hbx : bs (x.f.toNat * 256 + x.t.toNat) = true := by rw [ef, et]; exact hbe.symm
        refine (deliver_bar h.nt P keep hg hb).mono ?_
        rintro e w2 ⟨rfl, k2⟩
        refine ⟨0, 0, _, [], 53, rfl, Tell.none, rd_nil _, Ob.of_nu k2, h.kp.andNu k2, fun W kW => ?_⟩
        refine (refDel_bar ((h.rn.nu k2).nu kW) hH P j keep hj hx hbx).mono ?_
        rintro e w3 ⟨rfl, k3⟩
        exact ⟨_, _, rfl, rd_nil _, Stt.up (.inl ⟨_, _, _, _, _, _, _, _, _, _, _, rfl, ((h.nu k2).nu kW).nu k3⟩), Ob.of_nu k3⟩
  · refine (deliver_nil w i keep).mono ?_
    rintro e w2 ⟨rfl, k2⟩
    refine ⟨0, 0, _, [], 1, rfl, Tell.none, rd_nil _, Ob.of_nu k2, h.andNu k2, fun W kW => ?_⟩
    refine (refDel_no ((r.nu k2).nu kW) i keep).mono ?_
    rintro e w3 ⟨rfl, k3⟩
    exact ⟨_, _, rfl, rd_nil _, .inr ⟨rfl, ((h.andNu k2).andNu kW).andNu k3, ((r.nu k2).nu kW).nu k3⟩, Ob.of_nu k3⟩

set_option maxHeartbeats 1000000 in
theorem look_pair (h : Stt w0 w n p k) (hkb : k < 1599289640400) (i : Int) :
    Calls Try.prog 26 #[n, .int .i64 i] w fun e w' => ∃ f t u ys code, e = .returned (.tuple #[.agg #[.int .u8 f, .int .u8 t, u], .int .i64 code]) ∧ Tell f t ys ∧ Rd w' u ys ∧ Kp Nu w w' ∧ ∀ W, Kp Nu w' W → Calls Try.prog 87 #[.pointer (some ⟨p, 0, none⟩), .int .i64 i] W fun e w'' => ∃ u2 g, e = .returned (.tuple #[.agg #[.int .i64 f, .int .i64 t, u2, .bool g], .int .i64 code]) ∧ Rd w'' u2 ys ∧ Kp Nu W w'' := by
  rcases h with ⟨b, bm, nb, room, D, v, v2, c, L, H, bs, rfl, h⟩ | ⟨rfl, h, r⟩
  · have hH : (H.length : Int) ≤ 1599289640400 := by have := h.hk; omega
    have hlen := h.al.length
    cases hin : inL i L.length
    · refine (look_bad h.nt i hin).mono ?_
      rintro e w2 ⟨rfl, k2⟩
      refine ⟨0, 0, _, [], 54, rfl, Tell.none, rd_nil _, k2, fun W kW => ?_⟩
      refine (refLook_bad ((h.rn.nu k2).nu kW) hH i (by rw [hlen]; exact hin)).mono ?_
      rintro e w3 ⟨rfl, k3⟩
      exact ⟨_, _, rfl, rd_nil _, k3⟩
    · have hpp : 0 ≤ i ∧ i < (L.length : Int) := by simpa [inL] using hin
      obtain ⟨P, rfl⟩ : ∃ P : Nat, i = (P : Int) := ⟨i.toNat, by omega⟩
      have hP : P < L.length := by omega
      have hg := List.getElem?_eq_getElem hP
      obtain ⟨j, hj⟩ : ∃ j, (pls 0 H)[P]? = some j := ⟨_, List.getElem?_eq_getElem (by rw [hlen]; exact hP)⟩
      obtain ⟨x, hx, hxg, ef, et, ey⟩ := h.al.at hj hg
      generalize L[P] = g at *
      have hD := h.nt.dat g (List.mem_of_getElem? hg)
      refine (look_ok h.nt P hg).mono ?_
      rintro e w2 ⟨a, m, cap, rfl, hO, k2⟩
      refine ⟨g.f, g.t, _, g.ys, 0, rfl, hD.tell, Rd.of_own hO, k2, fun W kW => ?_⟩
      have hRW := (h.rn.nu k2).nu kW
      refine (refLook_ok hRW hH P j hj hx).mono ?_
      rintro e w3 ⟨rfl, k3⟩
      refine ⟨x.d, x.gone, by rw [ef, et], ?_, k3⟩
      have hd3 := (hRW.nu k3).dat x (List.mem_of_getElem? hx)
      rw [← ey]
      exact Rd.of_own hd3.own
  · refine (look_nil w i).mono ?_
    rintro e w2 ⟨rfl, k2⟩
    refine ⟨0, 0, _, [], 1, rfl, Tell.none, rd_nil _, k2, fun W kW => ?_⟩
    refine (refLook_no ((r.nu k2).nu kW) i).mono ?_
    rintro e w3 ⟨rfl, k3⟩
    exact ⟨_, _, rfl, rd_nil _, k3⟩
end
end Go.Proofs.Ythajboipnjjgfaa.Ly
