import Derived.Test.YtmlnglillgplfaaGreatSmC
import Derived.Test.YtmlnglillgplfaaGreatNlA
namespace Go.Proofs.YtmlnglillgplfaaGreat.Cl
open Go.RowKit
set_option linter.unusedVariables false
theorem box_keep {w w1 : World} {b : Nat} {c : Array Value} {ty : TypeId} (h : w.heap[b]? = some (.cells c ty (0, 0))) (k : Kp Nu w w1) : w1.heap[b]? = some (.cells c ty (0, 0)) := (k.block b (blk_lt h) (fun h => h)).trans h
set_option maxRecDepth 100000 in
set_option maxHeartbeats 4000000 in
theorem nil_walk (w : World) (sk fr rk rkey rhi rlim k seq key hi of st host gr bo ma li : Int) (two rhas has : Bool) (rva roa va oa pa sa ya : Option Addr) (rvn rvc ron roc vn vc on oc pn pc sn sc yn yc : Nat) :
    Calls Tryz.prog 4 #[.agg #[.int .i64 sk, .bool two, .int .u8 fr, .int .u8 rk, .int .u64 rkey, .int .u64 rhi, .slice rva rvn rvc, .slice roa ron roc, .bool rhas, .int .u8 rlim, .int .u8 k, .int .u64 seq, .int .u64 key, .int .u64 hi, .slice va vn vc, .slice oa on oc, .bool has, .int .u8 of, .int .u8 st, .int .u8 host, .int .u32 gr, .int .u32 bo, .int .u64 ma, .int .u8 li, .slice pa pn pc, .slice sa sn sc, .slice ya yn yc]] w fun e w' => e = .returned (.bool true) ∧ Kp Nu w w' := by
  have BG := fun W => begin_nil W rk rkey rhi rlim rva roa rvn rvc ron roc rhas
  have TK := fun W => take_nil W fr k seq key hi va oa pa sa ya vn vc on oc pn pc sn sc yn yc has of st host gr bo ma li
  have TI := fun W => tick_nil W
  have GU := fun W => giveUp_nil W
  have AI := fun W => aim_nil W fr
  have OU := fun W => outcome_nil W
  have RE := fun W => request_nil W
  have HI := fun W => hints_nil W
  have SO := fun W => sameOutcome_true W 0 0 0 0 0 0 0 [] none none none none 0 0 0 0 (.inl ⟨rfl, rfl⟩) (.inl ⟨rfl, rfl⟩) (fun _ h => by cases h)
  have SR := fun W => sameRequest_true W 0 0 0 0 false [] [] none none none none 0 0 0 0 (.inl ⟨rfl, rfl⟩) (.inl ⟨rfl, rfl⟩) (.inl ⟨rfl, rfl⟩) (.inl ⟨rfl, rfl⟩) (fun _ h => by cases h) (fun _ h => by cases h)
  simp only [List.length_nil] at SO SR
  go_enter Tryz.func4, Tryz.ntmps4
  go_wp2_with fail
  refine (BG _).mono ?_; rintro e w1 ⟨rfl, hk1⟩
  have B1 := new_at w _ hk1
  have HB1 := hide B1
  have HK1 := hide ((Kp.alloc w _ Nu).andNu hk1)
  have x0 := cellAt B1 0 (by rfl); have x1 := cellAt B1 1 (by rfl); have x2 := cellAt B1 2 (by rfl); have x3 := cellAt B1 3 (by rfl); have x4 := cellAt B1 4 (by rfl); have x5 := cellAt B1 5 (by rfl); have x6 := cellAt B1 6 (by rfl); have x7 := cellAt B1 7 (by rfl); have x8 := cellAt B1 8 (by rfl); have x9 := cellAt B1 9 (by rfl); have x10 := cellAt B1 10 (by rfl); have x11 := cellAt B1 11 (by rfl); have x12 := cellAt B1 12 (by rfl); have x13 := cellAt B1 13 (by rfl); have x14 := cellAt B1 14 (by rfl); have x15 := cellAt B1 15 (by rfl); have x16 := cellAt B1 16 (by rfl); have x17 := cellAt B1 17 (by rfl); have x18 := cellAt B1 18 (by rfl); have x19 := cellAt B1 19 (by rfl); have x20 := cellAt B1 20 (by rfl); have x21 := cellAt B1 21 (by rfl); have x22 := cellAt B1 22 (by rfl); have x23 := cellAt B1 23 (by rfl); have x24 := cellAt B1 24 (by rfl); have x25 := cellAt B1 25 (by rfl); have x26 := cellAt B1 26 (by rfl)
  clear BG B1 hk1
  go_wp2_with fail
  refine (TK _).mono ?_; rintro e w2 ⟨rfl, hk2⟩
  clear x0 x1 x2 x3 x4 x5 x6 x7 x8 x9 x10 x11 x12 x13 x14 x15 x16 x17 x18 x19 x20 x21 x22 x23 x24 x25 x26
  have B2 := box_keep HB1.out hk2
  have x2 := cellAt B2 2 (by rfl)
  have HK2 := hide (HK1.out.andNu hk2)
  clear TK B2 hk2
  go_wp2_with fail
  refine (TI _).mono ?_; rintro e w' ⟨rfl, rfl⟩
  go_wp2_with fail
  refine (GU _).mono ?_; rintro e w' ⟨rfl, rfl⟩
  go_wp2_with fail
  refine (AI _).mono ?_; rintro e w' ⟨rfl, rfl⟩
  clear TI GU AI x2
  go_wp2_with fail
  refine (OU _).mono ?_; rintro e w3 ⟨rfl, hk3⟩
  have HK3 := hide (HK2.out.andNu hk3)
  clear OU hk3
  go_wp2_with (guard_target =~ wpList _ _ _ ({ dst := none, op := Op.store 55 (Operand.tmp 11) (Operand.tmp 41), type := _, pos := _, after := _, guard := _ } :: _) _ _; refine wpList_store_new 55 9 (.tmp 11) (.tmp 41) rfl rfl info55 _ _ _ rfl rfl (by simp) rfl rfl (by simp [Value.oneCell']) ?_)
  refine (RE _).mono ?_; rintro e w4 ⟨rfl, hk4⟩
  have HB4 := hide (new_at w3 _ hk4)
  have HK4 := hide ((HK3.out.andAlloc _).andNu hk4)
  clear RE hk4
  go_wp2_with (guard_target =~ wpList _ _ _ ({ dst := none, op := Op.store 26 (Operand.tmp 12) (Operand.tmp 43), type := _, pos := _, after := _, guard := _ } :: _) _ _; refine wpList_store_new 26 7 (.tmp 12) (.tmp 43) rfl rfl info26 _ _ _ rfl rfl (by simp) rfl rfl (by simp [Value.oneCell']) ?_)
  refine (HI _).mono ?_; rintro e w' ⟨rfl, rfl⟩
  clear HI
  have KA := Kp.alloc w4 (.cells #[.int .u8 0, .int .u64 0, .int .u64 0, .slice none 0 0, .slice none 0 0, .bool false, .int .u8 0] 26) Nu
  have B5 := box_keep HB4.out KA
  have y0 := cellAt B5 0 (by rfl); have y1 := cellAt B5 1 (by rfl); have y2 := cellAt B5 2 (by rfl); have y3 := cellAt B5 3 (by rfl); have y4 := cellAt B5 4 (by rfl); have y5 := cellAt B5 5 (by rfl); have y6 := cellAt B5 6 (by rfl); have y7 := cellAt B5 7 (by rfl); have y8 := cellAt B5 8 (by rfl)
  have HK5 := hide (HK4.out.andNu KA)
  clear B5 KA
  go_wp2_with fail
  refine (SO _).mono ?_; rintro e w5 ⟨rfl, hk5⟩
  clear y0 y1 y2 y3 y4 y5 y6 y7 y8
  have B6 := new_at w4 _ hk5
  have z0 := cellAt B6 0 (by rfl); have z1 := cellAt B6 1 (by rfl); have z2 := cellAt B6 2 (by rfl); have z3 := cellAt B6 3 (by rfl); have z4 := cellAt B6 4 (by rfl); have z5 := cellAt B6 5 (by rfl); have z6 := cellAt B6 6 (by rfl)
  have HK6 := hide (HK5.out.andNu hk5)
  clear SO hk5 B6
  go_wp2_with fail
  refine (SR _).mono ?_; rintro e w6 ⟨rfl, hk6⟩
  clear z0 z1 z2 z3 z4 z5 z6
  have HK7 := hide (HK6.out.andNu hk6)
  clear SR hk6
  go_wp2
  go_ret
  exact ⟨rfl, HK7.out⟩
end Go.Proofs.YtmlnglillgplfaaGreat.Cl
