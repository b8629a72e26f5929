import Derived.Test.YthajboipnjjgfaaReB
import Derived.Deep.RegionHeld3
namespace Go.Proofs.Ythajboipnjjgfaa.Ly
open Go.RowKit Go.Maps
set_option linter.unusedVariables false

theorem int_at {w : World} {B n : Nat} {u : Value} {xs : List Nat} (h : w.ownsRow B 3 1 u n (ics xs)) {i : Nat} {x : Nat} (hi : xs[i]? = some x) : ∃ r cap, u = .slice (some ⟨r, 0, none⟩) n cap ∧ w.cell? ⟨r, i, none⟩ = some (.int .i64 (x : Int)) := by
  have hlt : i < xs.length := (List.getElem?_eq_some_iff.1 hi).1
  have hn : n = xs.length := by have := h.1; rw [ics_length] at this; omega
  rcases h.2 with ⟨_, h0⟩ | ⟨r, cap, cur, e, hB, hg, h1, h2, h3, h4⟩
  · omega
  · refine ⟨r, cap, e, ?_⟩
    have e1 : (ics xs)[i]? = some (.int .i64 (x : Int)) := by simp [ics, hi]
    rw [← h4, List.getElem?_take_of_lt (by omega)] at e1
    simpa [World.cell?, hg] using e1

section
variable {B p : Nat} {w w' : World} {there : Bool} {room : Int} {bs : Nat → Bool} {v : Value} {c : Ct} {H : List Hg}

theorem at_no (h : Rn B w p false room bs v c H) (i : Int) : Calls Try.prog 85 #[.pointer (some ⟨p, 0, none⟩), .int .i64 i] w fun e w' => e = .returned (.tuple #[.int .i64 0, .int .i64 1]) ∧ w' = w := by
  have c0 := h.c0
  go_enter Try.func85, Try.ntmps85
  go_wp2
  go_ret2
  exact ⟨rfl, rfl⟩
theorem at_bad (h : Rn B w p true room bs v c H) (hH : (H.length : Int) ≤ 1599289640400) (i : Int) (hi : inL i (pls 0 H).length = false) : Calls Try.prog 85 #[.pointer (some ⟨p, 0, none⟩), .int .i64 i] w fun e w' => e = .returned (.tuple #[.int .i64 0, .int .i64 54]) ∧ Kp Nu w w' := by
  have c0 := h.c0
  have PL := places_any h hH
  generalize (pls 0 H).length = M at *
  go_enter Try.func85, Try.ntmps85
  go_wp2_with fail
  refine PL.mono ?_; rintro e w2 ⟨u, rfl, ho, hk⟩
  obtain ⟨ad, cap, rfl⟩ := own_slice ho
  have HO := hide ho
  have HK := hide hk
  clear ho hk PL
  by_cases h1 : i < 0
  · clear hi
    go_wp2
    go_ret2
    exact ⟨rfl, HK.out⟩
  · have h2 : i ≥ (M : Int) := by
      simp [inL] at hi
      omega
    clear hi
    go_wp2
    go_ret2
    exact ⟨rfl, HK.out⟩
theorem at_ok (h : Rn B w p true room bs v c H) (hH : (H.length : Int) ≤ 1599289640400) (i j : Nat) (hj : (pls 0 H)[i]? = some j) : Calls Try.prog 85 #[.pointer (some ⟨p, 0, none⟩), .int .i64 (i : Int)] w fun e w' => e = .returned (.tuple #[.int .i64 (j : Int), .int .i64 0]) ∧ Kp Nu w w' := by
  have c0 := h.c0
  have PL := places_any h hH
  have hlt : (i : Int) < ((pls 0 H).length : Int) := by have := (List.getElem?_eq_some_iff.1 hj).1; omega
  have h0 : ¬ (i : Int) < 0 := by omega
  have h1 : ¬ (i : Int) ≥ ((pls 0 H).length : Int) := by omega
  generalize (pls 0 H).length = M at *
  have HJ := hide hj
  clear hj h
  go_enter Try.func85, Try.ntmps85
  go_wp2_with fail
  refine PL.mono ?_; rintro e w2 ⟨u, rfl, ho, hk⟩
  obtain ⟨r, cap, rfl, hc⟩ := int_at ho HJ.out
  have HK := hide hk
  clear ho hk PL
  have hi0 : (0 : Int) ≤ (i : Int) := by omega
  go_wp2
  go_ret2
  exact ⟨rfl, HK.out⟩

def hagg (g : Hg) : Value := .agg #[.int .i64 g.f, .int .i64 g.t, g.d, .bool g.gone]
theorem cell4 {w : World} {b : Nat} {x0 x1 x2 x3 : Value} {t : TypeId} (h : w.heap[b]? = some (.cells #[x0, x1, x2, x3] t (0, 0))) :
    w.cell? ⟨b, 0, none⟩ = some x0 ∧ w.cell? ⟨b, 1, none⟩ = some x1 ∧ w.cell? ⟨b, 2, none⟩ = some x2 ∧ w.cell? ⟨b, 3, none⟩ = some x3 := by
  refine ⟨?_, ?_, ?_, ?_⟩ <;> simp [World.cell?, h]
def box0 : Obj := .cells #[.int .i64 0, .int .i64 0, .slice none 0 0, .bool false] 120

theorem refLook_no (h : Rn B w p false room bs v c H) (i : Int) : Calls Try.prog 87 #[.pointer (some ⟨p, 0, none⟩), .int .i64 i] w fun e w' => e = .returned (.tuple #[.agg #[.int .i64 0, .int .i64 0, .slice none 0 0, .bool false], .int .i64 1]) ∧ Kp Nu w w' := by
  have AT := at_no (h.nu (Kp.alloc w (.cells #[.int .i64 0, .int .i64 0, .slice none 0 0, .bool false] 120) Nu)) i
  go_enter Try.func87, Try.ntmps87
  go_wp2_with fail
  refine AT.mono ?_; rintro e w2 ⟨rfl, rfl⟩
  go_wp2
  refine bodyPost_ret (v := .tuple #[.agg #[.int .i64 0, .int .i64 0, .slice none 0 0, .bool false], .int .i64 1]) (by simp [results, Try.results87, go_sem]) rfl ⟨rfl, ?_⟩
  exact Kp.alloc _ _ _
theorem refLook_bad (h : Rn B w p true room bs v c H) (hH : (H.length : Int) ≤ 1599289640400) (i : Int) (hi : inL i (pls 0 H).length = false) : Calls Try.prog 87 #[.pointer (some ⟨p, 0, none⟩), .int .i64 i] w fun e w' => e = .returned (.tuple #[.agg #[.int .i64 0, .int .i64 0, .slice none 0 0, .bool false], .int .i64 54]) ∧ Kp Nu w w' := by
  have K1 := Kp.alloc w (.cells #[.int .i64 0, .int .i64 0, .slice none 0 0, .bool false] 120) Nu
  have AT := at_bad (h.nu K1) hH i hi
  clear hi h
  go_enter Try.func87, Try.ntmps87
  go_wp2_with fail
  refine AT.mono ?_; rintro e w2 ⟨rfl, hk⟩
  have hbx := new_at w _ hk
  obtain ⟨x0, x1, x2, x3⟩ := cell4 hbx
  have g0 := free3 hbx 0
  have g1 := free3 hbx 1
  have g2 := free3 hbx 2
  have g3 := free3 hbx 3
  have HK := hide (K1.andNu hk)
  clear hk AT hbx K1
  go_wp2
  refine bodyPost_ret (v := .tuple #[.agg #[.int .i64 0, .int .i64 0, .slice none 0 0, .bool false], .int .i64 54]) (by simp [results, Try.results87, go_sem, x0, x1, x2, x3]) rfl ⟨rfl, ?_⟩
  first
    | exact HK.out
    | exact (((HK.out.andSet _ _ (.inl (by simp))).andSet _ _ (.inl (by simp))).andSet _ _ (.inl (by simp))).andSet _ _ (.inl (by simp))
set_option maxHeartbeats 400000 in
theorem refLook_ok (h : Rn B w p true room bs v c H) (hH : (H.length : Int) ≤ 1599289640400) (i j : Nat) {g : Hg} (hj : (pls 0 H)[i]? = some j) (hg : H[j]? = some g) : Calls Try.prog 87 #[.pointer (some ⟨p, 0, none⟩), .int .i64 (i : Int)] w fun e w' => e = .returned (.tuple #[.agg #[.int .i64 g.f, .int .i64 g.t, g.d, .bool g.gone], .int .i64 0]) ∧ Kp Nu w w' := by
  have K1 := Kp.alloc w (.cells #[.int .i64 0, .int .i64 0, .slice none 0 0, .bool false] 120) Nu
  have AT := at_ok (h.nu K1) hH i j hj
  have hlt : (j : Int) < (H.length : Int) := by have := (List.getElem?_eq_some_iff.1 hg).1; omega
  have hj0 : (0 : Int) ≤ (j : Int) := by omega
  have HG := hide hg
  have HH := hide h
  obtain ⟨k0, cap0, hgd⟩ := (h.dat g (List.mem_of_getElem? hg)).slice
  have HGD : Hid (g.d = .slice (some ⟨k0, 0, none⟩) g.ys.length cap0) := hgd
  clear hj hg h hgd
  go_enter Try.func87, Try.ntmps87
  go_wp2_with fail
  refine AT.mono ?_; rintro e w2 ⟨rfl, hk⟩
  have hbx := new_at w _ hk
  obtain ⟨x0, x1, x2, x3⟩ := cell4 hbx
  have g0 := free3 hbx 0
  have g1 := free3 hbx 1
  have g2 := free3 hbx 2
  have g3 := free3 hbx 3
  have kk := K1.andNu hk
  have hR := HH.out.nu kk
  have c2 := hR.c2
  obtain ⟨r, cap, hv, y0, y1, y2, y3⟩ := hrow_at hR.own HG.out
  rw [hv] at c2
  have HK := hide kk
  have hgd : g.d = .slice (some ⟨k0, 0, none⟩) g.ys.length cap0 := HGD.out
  rw [hgd] at y2
  clear hk AT hbx K1 kk hR hv hgd
  generalize H.length = M at *
  generalize g.ys.length = M2 at *
  go_wp2
  refine bodyPost_ret (v := .tuple #[.agg #[.int .i64 g.f, .int .i64 g.t, .slice (some ⟨k0, 0, none⟩) M2 cap0, .bool g.gone], .int .i64 0]) (by simp [results, Try.results87, go_sem, x0, x1, x2, x3]) rfl ⟨by rw [HGD.out], ?_⟩
  exact (((HK.out.andSet _ _ (.inl (by simp))).andSet _ _ (.inl (by simp))).andSet _ _ (.inl (by simp))).andSet _ _ (.inl (by simp))
end
end Go.Proofs.Ythajboipnjjgfaa.Ly
