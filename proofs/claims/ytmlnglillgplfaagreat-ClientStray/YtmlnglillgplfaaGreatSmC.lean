import Derived.Test.YtmlnglillgplfaaGreatSmB
namespace Go.Proofs.YtmlnglillgplfaaGreat.Cl
open Go.RowKit
set_option linter.unusedVariables false
set_option maxRecDepth 100000 in
set_option maxHeartbeats 1000000 in
/-- two outcomes alike, without pairs -/
theorem sameOutcome_true (w : World) (ph seq st hi host sent hops : Int) (V : List Int) (va1 va2 pa1 pa2 : Option Addr) (vc1 vc2 pc1 pc2 : Nat) (hv1 : Rd w (.slice va1 V.length vc1) V) (hv2 : Rd w (.slice va2 V.length vc2) V) (bv : Byt V) :
    Calls Tryz.prog 26 #[.agg #[.int .u8 ph, .int .u64 seq, .int .u8 st, .slice va1 V.length vc1, .slice pa1 0 pc1, .int .u64 hi, .int .u8 host, .int .i64 sent, .int .i64 hops], .agg #[.int .u8 ph, .int .u64 seq, .int .u8 st, .slice va2 V.length vc2, .slice pa2 0 pc2, .int .u64 hi, .int .u8 host, .int .i64 sent, .int .i64 hops]] w fun e w' => e = .returned (.bool true) ∧ Kp Nu w w' := by
  have KA := fun x y => (Kp.alloc w (.cells x 55) Nu).andAlloc (.cells y 55)
  have S1 := fun W (k : Kp Nu w W) => sameBytes_any W _ _ V V (hv1.nu k) (hv2.nu k) bv bv
  have SP := fun W => samePairs_none W pa1 pa2 pc1 pc2
  have d0 : decide (V = V) = true := decide_eq_true rfl
  clear hv1 hv2 bv
  generalize V.length = n at *
  go_enter Tryz.func26, Tryz.ntmps26
  go_wp2_with fail
  refine (S1 _ (KA _ _)).mono ?_; rintro e w' ⟨rfl, rfl⟩
  go_wp2_with fail
  refine (SP _).mono ?_; rintro e w' ⟨rfl, rfl⟩
  clear S1 SP
  go_wp2
  go_ret
  exact ⟨rfl, KA _ _⟩
set_option maxRecDepth 100000 in
set_option maxHeartbeats 1000000 in
theorem sameRequest_true (w : World) (k key hi lim : Int) (has : Bool) (V O : List Int) (va1 va2 oa1 oa2 : Option Addr) (vc1 vc2 oc1 oc2 : Nat) (hv1 : Rd w (.slice va1 V.length vc1) V) (hv2 : Rd w (.slice va2 V.length vc2) V) (ho1 : Rd w (.slice oa1 O.length oc1) O) (ho2 : Rd w (.slice oa2 O.length oc2) O) (bv : Byt V) (bo : Byt O) :
    Calls Tryz.prog 27 #[.agg #[.int .u8 k, .int .u64 key, .int .u64 hi, .slice va1 V.length vc1, .slice oa1 O.length oc1, .bool has, .int .u8 lim], .agg #[.int .u8 k, .int .u64 key, .int .u64 hi, .slice va2 V.length vc2, .slice oa2 O.length oc2, .bool has, .int .u8 lim]] w fun e w' => e = .returned (.bool true) ∧ Kp Nu w w' := by
  have M1 := fun W => message_any W k key hi lim 1 va1 oa1 V.length vc1 O.length oc1 has
  have M2 := fun W => message_any W k key hi lim 1 va2 oa2 V.length vc2 O.length oc2 has
  have SM := fun W (kp : Kp Nu w W) => same_any W k 1 key hi 0 0 0 0 0 0 lim has V O [] va1 oa1 none none none vc1 oc1 0 0 0 k 1 key hi 0 0 0 0 0 0 lim has V O [] va2 oa2 none none none vc2 oc2 0 0 0 (hv1.nu kp) (ho1.nu kp) (.inl ⟨rfl, rfl⟩) bv bo (fun _ h => by cases h) (hv2.nu kp) (ho2.nu kp) (.inl ⟨rfl, rfl⟩) bv bo (fun _ h => by cases h)
  simp only [and_self, decide_true, List.length_nil] at SM
  have KA := fun x y => (Kp.alloc w (.cells x 26) Nu).andAlloc (.cells y 26)
  clear hv1 hv2 ho1 ho2 bv bo
  generalize V.length = n at *
  generalize O.length = m at *
  go_enter Tryz.func27, Tryz.ntmps27
  go_wp2_with fail
  refine (M1 _).mono ?_; rintro e w1 ⟨rfl, hk1⟩
  have B2 : (w1.alloc (.cells #[.int .u8 k, .int .u64 1, .int .u64 key, .int .u64 hi, .slice va1 n vc1, .slice oa1 m oc1, .bool has, .int .u8 0, .int .u8 0, .int .u8 0, .int .u32 0, .int .u32 0, .int .u64 0, .int .u8 lim, .slice none 0 0, .slice none 0 0, .slice none 0 0] 36)).heap[w.heap.size + 1]? = some (.cells #[.int .u8 k, .int .u64 key, .int .u64 hi, .slice va2 n vc2, .slice oa2 m oc2, .bool has, .int .u8 lim] 26 (0, 0)) := by
    have h1 := heap_new (w.alloc (.cells #[.int .u8 k, .int .u64 key, .int .u64 hi, .slice va1 n vc1, .slice oa1 m oc1, .bool has, .int .u8 lim] 26)) (.cells #[.int .u8 k, .int .u64 key, .int .u64 hi, .slice va2 n vc2, .slice oa2 m oc2, .bool has, .int .u8 lim] 26)
    rw [World.size_alloc] at h1
    have hs := hk1.size
    simp only [World.size_alloc] at hs
    exact (Below.heap_alloc w1 _ _ (by omega)).trans ((hk1.block _ (by simp) (fun h => h)).trans h1)
  have x0 := cellAt B2 0 (by rfl); have x1 := cellAt B2 1 (by rfl); have x2 := cellAt B2 2 (by rfl); have x3 := cellAt B2 3 (by rfl); have x4 := cellAt B2 4 (by rfl); have x5 := cellAt B2 5 (by rfl); have x6 := cellAt B2 6 (by rfl)
  have HK1 := hide ((KA _ _).andNu hk1)
  clear M1 hk1 B2
  go_wp2_with (guard_target =~ wpList _ _ _ ({ dst := none, op := Op.store 36 (Operand.tmp 5) (Operand.tmp 8), type := _, pos := _, after := _, guard := _ } :: _) _ _; refine wpList_store_new 36 17 (.tmp 5) (.tmp 8) rfl rfl info36 _ _ _ rfl rfl (by simp) rfl rfl (by simp [Value.oneCell']) ?_)
  refine (M2 _).mono ?_; rintro e w2 ⟨rfl, hk2⟩
  clear x0 x1 x2 x3 x4 x5 x6
  have B1 : (w2.alloc (.cells #[.int .u8 k, .int .u64 1, .int .u64 key, .int .u64 hi, .slice va2 n vc2, .slice oa2 m oc2, .bool has, .int .u8 0, .int .u8 0, .int .u8 0, .int .u32 0, .int .u32 0, .int .u64 0, .int .u8 lim, .slice none 0 0, .slice none 0 0, .slice none 0 0] 36)).heap[w1.heap.size]? = some (.cells #[.int .u8 k, .int .u64 1, .int .u64 key, .int .u64 hi, .slice va1 n vc1, .slice oa1 m oc1, .bool has, .int .u8 0, .int .u8 0, .int .u8 0, .int .u32 0, .int .u32 0, .int .u64 0, .int .u8 lim, .slice none 0 0, .slice none 0 0, .slice none 0 0] 36 (0, 0)) := by
    have hs := hk2.size
    simp only [World.size_alloc] at hs
    exact (Below.heap_alloc w2 _ _ (by omega)).trans (new_at w1 _ hk2)
  have y0 := cellAt B1 0 (by rfl); have y1 := cellAt B1 1 (by rfl); have y2 := cellAt B1 2 (by rfl); have y3 := cellAt B1 3 (by rfl); have y4 := cellAt B1 4 (by rfl); have y5 := cellAt B1 5 (by rfl); have y6 := cellAt B1 6 (by rfl); have y7 := cellAt B1 7 (by rfl); have y8 := cellAt B1 8 (by rfl); have y9 := cellAt B1 9 (by rfl); have y10 := cellAt B1 10 (by rfl); have y11 := cellAt B1 11 (by rfl); have y12 := cellAt B1 12 (by rfl); have y13 := cellAt B1 13 (by rfl); have y14 := cellAt B1 14 (by rfl); have y15 := cellAt B1 15 (by rfl); have y16 := cellAt B1 16 (by rfl)
  have HK2 := hide ((HK1.out.andAlloc (.cells #[.int .u8 k, .int .u64 1, .int .u64 key, .int .u64 hi, .slice va1 n vc1, .slice oa1 m oc1, .bool has, .int .u8 0, .int .u8 0, .int .u8 0, .int .u32 0, .int .u32 0, .int .u64 0, .int .u8 lim, .slice none 0 0, .slice none 0 0, .slice none 0 0] 36)).andNu hk2)
  clear M2 hk2 B1
  go_wp2_with (guard_target =~ wpList _ _ _ ({ dst := none, op := Op.store 36 (Operand.tmp 6) (Operand.tmp 10), type := _, pos := _, after := _, guard := _ } :: _) _ _; refine wpList_store_new 36 17 (.tmp 6) (.tmp 10) rfl rfl info36 _ _ _ rfl rfl (by simp) rfl rfl (by simp [Value.oneCell']) ?_)
  refine (SM _ (HK2.out.andAlloc _)).mono ?_; rintro e w3 ⟨rfl, hk3⟩
  clear y0 y1 y2 y3 y4 y5 y6 y7 y8 y9 y10 y11 y12 y13 y14 y15 y16
  have HK3 := hide ((HK2.out.andAlloc (.cells #[.int .u8 k, .int .u64 1, .int .u64 key, .int .u64 hi, .slice va2 n vc2, .slice oa2 m oc2, .bool has, .int .u8 0, .int .u8 0, .int .u8 0, .int .u32 0, .int .u32 0, .int .u64 0, .int .u8 lim, .slice none 0 0, .slice none 0 0, .slice none 0 0] 36)).andNu hk3)
  clear SM hk3
  go_wp2
  go_ret
  exact ⟨rfl, HK3.out⟩
end Go.Proofs.YtmlnglillgplfaaGreat.Cl
