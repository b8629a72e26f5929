import Derived.Test.YtffcnonhhfhlhaaDoorTxE
import Derived.Test.YtffcnonhhfhlhaaDoorTxF
import Derived.Test.YtffcnonhhfhlhaaDoorLdI
namespace Go.Proofs.YtffcnonhhfhlhaaDoor.Rg
open Go.RowKit Go.Shelf Go.Sort
open Go.Proofs.YtffcnonhhfhlhaaDoor.It
set_option linter.unusedVariables false

theorem limit_any {B b : Nat} {w : World} {lim : Int} {v : Value} {L : List Sg} (h : Tb B w b lim v L) : Calls Tryd.prog 23 #[.pointer (some ⟨b, 0, none⟩)] w fun e w' => e = .returned (.int .i64 lim) ∧ w' = w := by
  have MA := made_any h
  have c0 := h.c0
  go_enter Tryd.func23, Tryd.ntmps23
  go_wp2_with (go_at_call 50; refine MA.mono ?_; rintro e w' ⟨rfl, rfl⟩)
  go_ret
  exact ⟨rfl, rfl⟩
theorem PowB.nu {w w' : World} (h : PowB w.heap.size w) (k : Kp Nu w w') : PowB w'.heap.size w' := fun W hW => h W (k.toBelow.trans (hW.mono k.size))

set_option maxRecDepth 100000 in
set_option maxHeartbeats 2000000 in
theorem stands_any {B b : Nat} {w : World} {lim : Int} {v : Value} {L : List Sg} (h : Tb B w b lim v L) (hp : PowB w.heap.size w) (rv : Value) (hrs : Rs w rv L) :
    Calls Tryd.prog 12 #[.pointer (some ⟨b, 0, none⟩), .agg #[.int .i64 lim, rv]] w fun e w' => e = .returned (.bool true) ∧ Kp Nu w w' := by
  have mixed : Tryd.prog.follows .mixedOrders = true := by kernel_rfl
  have hM : L.length ≤ 8192 := by have := h.len; have := h.lim1; omega
  have hsgb := h.sgb
  obtain ⟨w1, hw1⟩ : ∃ w1, w.alloc (.cells #[.int .i64 lim, rv] 29) = w1 := ⟨_, rfl⟩
  have K1 : Kp Nu w w1 := by rw [← hw1]; exact Kp.alloc w _ Nu
  have b1 : w1.heap[w.heap.size]? = some (.cells #[.int .i64 lim, rv] 29 (0, 0)) := by rw [← hw1]; exact heap_alloc_new w _
  have LI := list_any (h.nu K1)
  have HH := hide h
  have HP := hide hp
  have HR := hide hrs
  have HK1 := hide K1
  have HB1 := hide b1
  have hne : 0 < L.length := h.tab.ne
  have HSB := hide hsgb
  obtain ⟨rr, off, cap, hrv, _⟩ := hrs
  obtain ⟨N, hN⟩ : ∃ N, L.length = N := ⟨_, rfl⟩
  rw [hN] at hrv hM hne
  have HN := hide hN
  subst hrv
  clear h hp b1 K1 hsgb
  go_enter Tryd.func12, Tryd.ntmps12
  go_wp2_with fail
  refine LI.mono ?_; rintro e w2 ⟨u, rfl, ho2, hk2⟩
  have HO2 := hide ho2
  have HK2 := hide (HK1.out.andNu hk2)
  have HB2 := hide ((hk2.block _ (blk_lt HB1.out) (fun h => h)).trans HB1.out)
  have LE := len_any (HH.out.nu HK2.out)
  have LM := limit_any (HH.out.nu HK2.out)
  have TX := text_any (HH.out.nu HK2.out) (HP.out.nu HK2.out)
  obtain ⟨ad2, cp2, hu2⟩ := own_slice ho2
  rw [HN.out] at hu2 LE
  subst hu2
  clear LI ho2 hk2 hN
  go_wp2_with (first | (go_at_call 22; refine LE.mono ?_; rintro e wl ⟨rfl, rfl⟩) | (go_at_call 23; refine LM.mono ?_; rintro e wm ⟨rfl, rfl⟩))
  refine TX.mono ?_; rintro e w3 ⟨rfl, hk3⟩
  have HK3 := hide hk3
  have HB3 := hide ((hk3.block _ (blk_lt HB2.out) (fun h => h)).trans HB2.out)
  have HK03 := hide (HK2.out.andNu hk3)
  obtain ⟨a0, a1⟩ := cell2' HB3.out
  have RT := refText_any w3 _ L lim (HR.out.nu HK03.out) (by rw [HN.out]; exact hM) HSB.out
  generalize txt L = T at *
  clear TX LE LM hk3
  go_wp2_with fail
  refine RT.mono ?_; rintro e w4 ⟨rfl, hk4⟩
  have HK04 := hide (HK03.out.andNu hk4)
  have HB4 := hide ((hk4.block _ (blk_lt HB3.out) (fun h => h)).trans HB3.out)
  have hk24 := HK3.out.andNu hk4
  have RS2 := (rs_of_own (own_keep HO2.out (fun g e => hk24.block g (own_lt HO2.out e) (fun h => h))) (by rw [HN.out]; exact hne))
  have SA := fun W (hW : Kp Nu w4 W) => same_true W _ _ L (RS2.nu hW) ((HR.out.nu HK04.out).nu hW) (by rw [HN.out]; exact hM)
  obtain ⟨a0', a1'⟩ := cell2' HB4.out
  clear RT hk4 hk24 a0 a1 RS2
  go_wp2_with fail
  refine (SA w4 (Kp.refl _ _)).mono ?_; rintro e w5 ⟨rfl, hk5⟩
  have HK05 := hide (HK04.out.andNu hk5)
  obtain ⟨a0, a1⟩ := cell2' ((hk5.block _ (blk_lt HB4.out) (fun h => h)).trans HB4.out)
  have z1 : ((N : Int) == (N : Int)) = true := by simp
  have z2 : (lim == lim) = true := by simp
  clear SA a0' a1' hk5
  go_wp2
  go_ret
  exact ⟨rfl, HK05.out⟩
end Go.Proofs.YtffcnonhhfhlhaaDoor.Rg
namespace Go.Proofs.YtffcnonhhfhlhaaDoor.Rg
open Go.RowKit Go.Shelf Go.Sort
open Go.Proofs.YtffcnonhhfhlhaaDoor.It
set_option linter.unusedVariables false

theorem sgs_of_own {w : World} {B : Nat} {u : Value} {M : List Sg} (h : w.ownsRow B 26 3 u M.length (cells M)) (hb : ∀ s ∈ M, SgB s) : Sgs w u M := by
  rcases Nat.eq_zero_or_pos M.length with h0 | h0
  · obtain rfl := List.eq_nil_of_length_eq_zero h0
    obtain ⟨ad, cp, e⟩ := own_slice h
    exact .inl ⟨⟨ad, cp, e⟩, rfl⟩
  · obtain ⟨r, off, cap, e, hc⟩ := rs_of_own h h0
    refine .inr ⟨r, off, cap, e, fun i s hs => ?_⟩
    obtain ⟨x0, x1, x2⟩ := hc i s hs
    have f := hb s (List.mem_of_getElem? hs)
    exact ⟨x0, x1, x2, f.l0, f.l1, f.h0, f.h1, f.o0, f.o1⟩

set_option maxRecDepth 100000 in
set_option maxHeartbeats 1000000 in
/-- two lists of the same segments, however long -/
theorem same_rz (w : World) (u1 u2 : Value) (L : List Sg) (h1 : Rz w u1 L) (h2 : Rz w u2 L) (hl : L.length ≤ 5864062014634) :
    Calls Tryd.prog 11 #[u1, u2] w fun e w' => e = .returned (.bool true) ∧ Kp Nu w w' := by
  have mixed : Tryd.prog.follows .mixedOrders = true := by kernel_rfl
  obtain ⟨a1, c1, e1⟩ := h1.slice
  obtain ⟨a2, c2, e2⟩ := h2.slice
  have HX1 := hide h1
  have HX2 := hide h2
  obtain ⟨N, hN⟩ : ∃ N, L.length = N := ⟨_, rfl⟩
  have HN := hide hN
  rw [hN] at e1 e2 hl
  have z0 : ((N : Int) != (N : Int)) = false := by simp
  subst e1 e2
  clear h1 h2 hN
  go_enter Tryd.func11, Tryd.ntmps11
  go_wp2_with fail
  go_loopw [5] (fun i wr => ∃ k : Nat, i = .int .i64 (k : Int) ∧ k ≤ N ∧ Hid (Kp Nu w wr)) (fun i _ => N - (intOf i).toNat)
  case atStart => exact ⟨0, rfl, Nat.zero_le _, Kp.refl _ _⟩
  case round =>
    obtain ⟨k, rfl, hk, hI⟩ := hrel
    by_cases hlt : k < N
    · have hkL : k < L.length := by rw [HN.out]; exact hlt
      obtain ⟨s, hs⟩ : ∃ s, L[k]? = some s := ⟨_, List.getElem?_eq_getElem hkL⟩
      have hX1 : ∃ r off cap, (.slice a1 N c1 : Value) = .slice (some ⟨r, off, none⟩) N cap ∧ w.cell? ⟨r, off + k * 3, none⟩ = some (.int .u64 s.lo) ∧ w.cell? ⟨r, off + k * 3 + 1, none⟩ = some (.int .u64 s.hi) ∧ w.cell? ⟨r, off + k * 3 + 2, none⟩ = some (.int .u8 s.h) := by
        rcases HX1.out with ⟨h0, _⟩ | ⟨r, off, cap, e, hc⟩
        · rw [h0] at hs; simp at hs
        · rw [HN.out] at e; exact ⟨r, off, cap, e, hc k s hs⟩
      have hX2 : ∃ r off cap, (.slice a2 N c2 : Value) = .slice (some ⟨r, off, none⟩) N cap ∧ w.cell? ⟨r, off + k * 3, none⟩ = some (.int .u64 s.lo) ∧ w.cell? ⟨r, off + k * 3 + 1, none⟩ = some (.int .u64 s.hi) ∧ w.cell? ⟨r, off + k * 3 + 2, none⟩ = some (.int .u8 s.h) := by
        rcases HX2.out with ⟨h0, _⟩ | ⟨r, off, cap, e, hc⟩
        · rw [h0] at hs; simp at hs
        · rw [HN.out] at e; exact ⟨r, off, cap, e, hc k s hs⟩
      obtain ⟨r1, o1, cp1, q1, x0, x1, x2⟩ := hX1
      obtain ⟨r2, o2, cp2, q2, y0, y1, y2⟩ := hX2
      simp only [Value.slice.injEq] at q1 q2
      obtain ⟨rfl, q1'⟩ := q1
      obtain ⟨rfl, q2'⟩ := q2
      clear q1' q2'
      replace x0 := cell_nu x0 hI.out.drew; replace x1 := cell_nu x1 hI.out.drew; replace x2 := cell_nu x2 hI.out.drew
      replace y0 := cell_nu y0 hI.out.drew; replace y1 := cell_nu y1 hI.out.drew; replace y2 := cell_nu y2 hI.out.drew
      have hltI : (k : Int) < (N : Int) := by omega
      have hk0 : (0 : Int) ≤ (k : Int) := by omega
      have hkN : (k : Int) ≤ 5864062014634 := by omega
      have HF : Hid (Kp Nu w wr.drew) := hI.out.drew
      have t0 : (s.lo == s.lo) = true := by simp
      have t1 : (s.hi == s.hi) = true := by simp
      have t2 : (s.h == s.h) = true := by simp
      clear hI hs hkL
      go_wp2_with fail
      go_region
      go_wp2
      go_roundw
      case rel => exact ⟨k + 1, by go_num, by omega, HF⟩
      case measure => simp [intOf]; omega
    · have hge : ¬ (k : Int) < (N : Int) := by omega
      go_wp2
      go_ret
      exact ⟨rfl, hI.out⟩
end Go.Proofs.YtffcnonhhfhlhaaDoor.Rg
