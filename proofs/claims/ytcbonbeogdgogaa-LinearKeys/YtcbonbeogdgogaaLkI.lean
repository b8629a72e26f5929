import Derived.Test.YtcbonbeogdgogaaLkG
import Derived.Test.YtcbonbeogdgogaaLkH
import Derived.Test.YtcbonbeogdgogaaLoJ
namespace Go.Proofs.Ytcbonbeogdgogaa.Li
open Go.RowKit
set_option linter.unusedVariables false
set_option maxRecDepth 100000 in
set_option maxHeartbeats 1000000 in
theorem verdicts24 (w : World) (ok : Bool) (key : Int) (a1 a2 : Option Addr) (n c1 c2 : Nat) (o : List Int) (ho : o.length = n) (hn : n ≤ 65536) (h1 : Ns w (.slice a1 n c1) o) (h2 : Ns w (.slice a2 n c2) o) :
    Calls Try.prog 24 #[.agg #[.bool ok, .int .u64 key, .slice a1 n c1], .agg #[.bool ok, .int .u64 key, .slice a2 n c2]] w fun e w' => e = .returned (.bool true) ∧ Kp Nu w w' := by
  have k2 : Kp Nu w ((w.alloc (.cells #[.bool ok, .int .u64 key, .slice a1 n c1] 41)).alloc (.cells #[.bool ok, .int .u64 key, .slice a2 n c2] 41)) := (Kp.alloc w _ Nu).andAlloc _
  have IE := ints_eq _ _ _ o (h1.nu k2) (h2.nu k2) (by omega)
  have e1 : (ok == ok) = true := by simp
  have e2 : (key == key) = true := by simp
  have HK := hide k2
  clear h1 h2 ho hn k2
  go_enter Try.func24, Try.ntmps24
  go_wp2_with fail
  refine IE.mono ?_; rintro e w3 ⟨rfl, hk3⟩
  have HK3 := hide (HK.out.andNu hk3)
  clear IE hk3
  go_wp2
  go_ret
  exact ⟨rfl, HK3.out⟩
set_option maxRecDepth 100000 in
set_option maxHeartbeats 2000000 in
theorem keys_walk (w : World) (u : Value) (L : List Ca) (hL : Cls w u L) (hN : L.length * 144 ≤ 140737488351232) :
    Calls Try.prog 7 #[u] w fun e w' => e = .returned (.bool true) ∧ Kp Nu w w' := by
  have T := twins9 w u L hL hN
  obtain ⟨ua, uc, rfl⟩ := hL.slice
  have HL := hide (And.intro hL hN)
  clear hL hN
  go_enter Try.func7, Try.ntmps7
  go_wp2_with fail
  refine T.mono ?_; rintro e w1 ⟨lv, rfl, D, hDl, hDa, hcow, hk1⟩
  obtain ⟨la, lc, rfl⟩ := hcow.cls.slice
  have CK := checkKey14 w1 _ D hcow.cls (by have := HL.out.2; omega)
  have HD := hide (And.intro hDl (And.intro hDa (And.intro hcow.cls hk1)))
  clear T hDl hDa hcow hk1
  go_wp2_with fail
  refine CK.mono ?_; rintro e w2 hck
  have hck0 := hck
  obtain ⟨ok, key, a1, n, c1, er, rfl, k2, _⟩ := hck0
  have HC := hide hck
  obtain ⟨w3, e3⟩ : ∃ w3, w2.alloc (.cells #[.bool ok, .int .u64 key, .slice a1 n c1] 41) = w3 := ⟨_, rfl⟩
  have k3 : Kp Nu w2 w3 := by rw [← e3]; exact Kp.alloc _ _ _
  have b3 : w3.heap[w2.heap.size]? = some (.cells #[.bool ok, .int .u64 key, .slice a1 n c1] 41 (0, 0)) := by rw [← e3]; exact heap_new w2 _
  have kw3 := (HD.out.2.2.2.andNu k2).andNu k3
  have CR := checkKey23 w3 _ L (HL.out.1.nu kw3) (by have := HL.out.2; omega)
  have H3 := hide (And.intro k2 (And.intro k3 (And.intro b3 kw3)))
  clear CK hck k2 k3 b3 kw3
  go_wp2_with fail
  try rw [e3]
  refine CR.mono ?_; rintro e w4 hcr
  obtain ⟨ok', key', er', n', o, a1', c1', a2, c2, ee1, ee2, kk1, kk2, ho, hn, ns1, ns2⟩ := ckr_same HD.out.1 HD.out.2.1 HC.out hcr
  simp only [Ending.returned.injEq, Value.tuple.injEq, Array.mk.injEq, List.cons.injEq, Value.agg.injEq, Value.bool.injEq, Value.int.injEq, Value.slice.injEq, and_true, true_and] at ee1
  obtain ⟨⟨rfl, rfl, rfl, rfl, rfl⟩, rfl⟩ := ee1
  subst ee2
  obtain ⟨w5, e5⟩ : ∃ w5, w4.alloc (.cells #[.bool ok, .int .u64 key, .slice a2 n c2] 41) = w5 := ⟨_, rfl⟩
  have k5 : Kp Nu w4 w5 := by rw [← e5]; exact Kp.alloc _ _ _
  have b5 : w5.heap[w4.heap.size]? = some (.cells #[.bool ok, .int .u64 key, .slice a2 n c2] 41 (0, 0)) := by rw [← e5]; exact heap_new w4 _
  have b35 := box_k (box_k H3.out.2.2.1 kk2) k5
  have x0 := cellAt b35 0 (v := .bool ok) rfl
  have x1 := cellAt b35 1 (v := .int .u64 key) rfl
  have x2 := cellAt b35 2 (v := .slice a1 n c1) rfl
  have z0 := cellAt b5 0 (v := .bool ok) rfl
  have z1 := cellAt b5 1 (v := .int .u64 key) rfl
  have z2 := cellAt b5 2 (v := .slice a2 n c2) rfl
  have NU := num15 w5 er
  have VD := verdicts24 w5 ok key a1 a2 n c1 c2 (oi o) (by rw [oi_len]; exact ho) hn (((ns1.nu H3.out.2.1).nu kk2).nu k5) (ns2.nu k5)
  have kw5 := (H3.out.2.2.2.andNu kk2).andNu k5
  have ee : (er == er) = true := by simp
  have H5 := hide (And.intro kw5 (HD.out.2.2.1.nu (((H3.out.1.andNu H3.out.2.1).andNu kk2).andNu k5)))
  clear CR hcr kk1 kk2 ns1 ns2 k5 b5 b35 kw5 ho hn
  go_wp2_with fail
  try rw [e5]
  refine NU.mono ?_; rintro e w6 ⟨rfl, hw6⟩
  obtain rfl := hw6
  clear NU
  go_wp2_with fail
  refine VD.mono ?_; rintro e w7 ⟨rfl, hk7⟩
  have kw7 := H5.out.1.andNu hk7
  have UN := unchanged13 w7 _ _ D L (H5.out.2.nu hk7) (HL.out.1.nu kw7) HD.out.1.symm (HD.out.2.1.symm HD.out.1) (by have := HD.out.1; have := HL.out.2; omega)
  have HK7 := hide kw7
  clear VD hk7 kw7 x0 x1 x2 z0 z1 z2
  go_wp2_with fail
  refine UN.mono ?_; rintro e w8 ⟨rfl, hk8⟩
  have HK8 := hide (HK7.out.andNu hk8)
  clear UN hk8
  go_wp2
  go_ret
  exact ⟨rfl, HK8.out⟩
end Go.Proofs.Ytcbonbeogdgogaa.Li
