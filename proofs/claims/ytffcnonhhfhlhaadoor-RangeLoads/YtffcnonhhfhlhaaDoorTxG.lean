import Derived.Test.YtffcnonhhfhlhaaDoorTxE
import Derived.Test.YtffcnonhhfhlhaaDoorTxF
import Derived.Test.YtffcnonhhfhlhaaDoorLdI
namespace Go.Proofs.YtffcnonhhfhlhaaDoor.Rg
open Go.RowKit Go.Shelf Go.Sort
open Go.Proofs.YtffcnonhhfhlhaaDoor.It
set_option linter.unusedVariables false

theorem limit_any {B b : Nat} {w : World} {lim : Int} {v : Value} {L : List Sg} (h : Tb B w b lim v L) : Calls Tryd.prog 23 #[.pointer (some ⟨b, 0, none⟩)] w fun e w' => e = .returned (.int .i64 lim) ∧ w' = w := by
  have MA := made_any h
  have c0 := h.c0
  go_enter Tryd.func23, Tryd.ntmps23
  go_wp2_with (go_at_call 50; refine MA.mono ?_; rintro e w' ⟨rfl, rfl⟩)
  go_ret
  exact ⟨rfl, rfl⟩
theorem PowB.nu {w w' : World} (h : PowB w.heap.size w) (k : Kp Nu w w') : PowB w'.heap.size w' := fun W hW => h W (k.toBelow.trans (hW.mono k.size))

set_option maxRecDepth 100000 in
set_option maxHeartbeats 2000000 in
theorem stands_any {B b : Nat} {w : World} {lim : Int} {v : Value} {L : List Sg} (h : Tb B w b lim v L) (hp : PowB w.heap.size w) (rv : Value) (hrs : Rs w rv L) :
    Calls Tryd.prog 12 #[.pointer (some ⟨b, 0, none⟩), .agg #[.int .i64 lim, rv]] w fun e w' => e = .returned (.bool true) ∧ Kp Nu w w' := by
  have mixed : Tryd.prog.follows .mixedOrders = true := by kernel_rfl
  have hM : L.length ≤ 8192 := by have := h.len; have := h.lim1; omega
  have hsgb := h.sgb
  obtain ⟨w1, hw1⟩ : ∃ w1, w.alloc (.cells #[.int .i64 lim, rv] 29) = w1 := ⟨_, rfl⟩
  have K1 : Kp Nu w w1 := by rw [← hw1]; exact Kp.alloc w _ Nu
  have b1 : w1.heap[w.heap.size]? = some (.cells #[.int .i64 lim, rv] 29 (0, 0)) := by rw [← hw1]; exact heap_alloc_new w _
  have LI := list_any (h.nu K1)
  have HH := hide h
  have HP := hide hp
  have HR := hide hrs
  have HK1 := hide K1
  have HB1 := hide b1
  have hne : 0 < L.length := h.tab.ne
  have HSB := hide hsgb
  obtain ⟨rr, off, cap, hrv, _⟩ := hrs
  obtain ⟨N, hN⟩ : ∃ N, L.length = N := ⟨_, rfl⟩
  rw [hN] at hrv hM hne
  have HN := hide hN
  subst hrv
  clear h hp b1 K1 hsgb
  go_enter Tryd.func12, Tryd.ntmps12
  go_wp2_with fail
  refine LI.mono ?_; rintro e w2 ⟨u, rfl, ho2, hk2⟩
  have HO2 := hide ho2
  have HK2 := hide (HK1.out.andNu hk2)
  have HB2 := hide ((hk2.block _ (blk_lt HB1.out) (fun h => h)).trans HB1.out)
  have LE := len_any (HH.out.nu HK2.out)
  have LM := limit_any (HH.out.nu HK2.out)
  have TX := text_any (HH.out.nu HK2.out) (HP.out.nu HK2.out)
  obtain ⟨ad2, cp2, hu2⟩ := own_slice ho2
  rw [HN.out] at hu2 LE
  subst hu2
  clear LI ho2 hk2 hN
  go_wp2_with (first | (go_at_call 22; refine LE.mono ?_; rintro e wl ⟨rfl, rfl⟩) | (go_at_call 23; refine LM.mono ?_; rintro e wm ⟨rfl, rfl⟩))
  refine TX.mono ?_; rintro e w3 ⟨rfl, hk3⟩
  have HK3 := hide hk3
  have HB3 := hide ((hk3.block _ (blk_lt HB2.out) (fun h => h)).trans HB2.out)
  have HK03 := hide (HK2.out.andNu hk3)
  obtain ⟨a0, a1⟩ := cell2' HB3.out
  have RT := refText_any w3 _ L lim (HR.out.nu HK03.out) (by rw [HN.out]; exact hM) HSB.out
  generalize txt L = T at *
  clear TX LE LM hk3
  go_wp2_with fail
  refine RT.mono ?_; rintro e w4 ⟨rfl, hk4⟩
  have HK04 := hide (HK03.out.andNu hk4)
  have HB4 := hide ((hk4.block _ (blk_lt HB3.out) (fun h => h)).trans HB3.out)
  have hk24 := HK3.out.andNu hk4
  have RS2 := (rs_of_own (own_keep HO2.out (fun g e => hk24.block g (own_lt HO2.out e) (fun h => h))) (by rw [HN.out]; exact hne))
  have SA := fun W (hW : Kp Nu w4 W) => same_true W _ _ L (RS2.nu hW) ((HR.out.nu HK04.out).nu hW) (by rw [HN.out]; exact hM)
  obtain ⟨a0', a1'⟩ := cell2' HB4.out
  clear RT hk4 hk24 a0 a1 RS2
  go_wp2_with fail
  refine (SA w4 (Kp.refl _ _)).mono ?_; rintro e w5 ⟨rfl, hk5⟩
  have HK05 := hide (HK04.out.andNu hk5)
  obtain ⟨a0, a1⟩ := cell2' ((hk5.block _ (blk_lt HB4.out) (fun h => h)).trans HB4.out)
  have z1 : ((N : Int) == (N : Int)) = true := by simp
  have z2 : (lim == lim) = true := by simp
  clear SA a0' a1' hk5
  go_wp2
  go_ret
  exact ⟨rfl, HK05.out⟩
end Go.Proofs.YtffcnonhhfhlhaaDoor.Rg
