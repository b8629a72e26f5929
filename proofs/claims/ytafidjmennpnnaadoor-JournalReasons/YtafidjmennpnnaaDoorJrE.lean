import Derived.Test.YtafidjmennpnnaaDoorJrD
namespace Go.Proofs.YtafidjmennpnnaaDoor
open Go.RowKit Go.Extern.Stop Go.Stop Go.Extern
set_option linter.unusedVariables false

set_option maxHeartbeats 2000000 in
theorem reason_none (w : World) (hE : Et w) : Calls Tryd.prog 6 #[.iface 23 (.pointer none)] w fun e w' => e = .returned (.tuple #[.int .i64 (-1), .int .i64 0, .int .i64 2]) ∧ Bw w w' := by
  have hmf : ∀ (fn : Fn) (first cap : Array Value) (w : World), (Instr.makeFunc fn first cap).run Tryd.prog w = .ok (.func fn first cap) w := fun _ _ _ _ => rfl
  have B1 := ((((Bw.refl w).al (.cells #[.int .i64 0] 3)).al (.cells #[.int .i64 0] 3)).al (.cells #[.int .i64 0] 22)).al (.cells #[.pointer none] 23)
  have F4 := four w (.cells #[.int .i64 0] 3) (.cells #[.int .i64 0] 3) (.cells #[.int .i64 0] 22) (.cells #[.pointer none] 23)
  have A1 := hitF ⟨w.heap.size + 1 + 1 + 1, 0, none⟩ (.pointer none) _ (hE.below B1) (at_cell F4.2.2.2) (at_free F4.2.2.2)
  have HB1 : Hid _ := B1
  have HF4 : Hid _ := F4
  clear B1 F4
  go_enter_defers Tryd.func6, Tryd.ntmps6
  go_wp2_with fail
  refine A1.mono ?_; rintro e w2 ⟨rfl, hT⟩
  have B2 := hT.bw HB1.out (by show _ ≤ w.heap.size + 1 + 1 + 1; omega)
  have b3 := hT.self HF4.out.2.2.2
  have b0 := hT.other HF4.out.1 (by show _ ≠ w.heap.size + 1 + 1 + 1; omega)
  have b1 := hT.other HF4.out.2.1 (by show _ ≠ w.heap.size + 1 + 1 + 1; omega)
  have b2 := hT.other HF4.out.2.2.1 (by show _ ≠ w.heap.size + 1 + 1 + 1; omega)
  have c3 := at_cell b3
  have A2 := missF ⟨w2.heap.size, 0, none⟩ _ ((hE.below B2).below ((Bw.refl w2).al (.cells #[.int .i64 0] 22)))
  have HB2 : Hid _ := B2.al (.cells #[.int .i64 0] 22)
  have HW : Hid _ := (Bw.refl w2).al (.cells #[.int .i64 0] 22)
  have HX : Hid _ := And.intro b0 (And.intro b1 b2)
  clear A1 hT B2 HB1 HF4 b0 b1 b2 b3
  go_wp2_with fail
  refine A2.mono ?_; rintro e w3 ⟨rfl, hT3⟩
  have B3 := HB2.out.trans hT3
  have K3 := HW.out.trans hT3
  have b0 := K3.at HX.out.1
  have b1 := K3.at HX.out.2.1
  have b2 := K3.at HX.out.2.2
  have d0 := at_cell b0
  have d1 := at_cell b1
  have d2 := at_cell b2
  have g0 := at_free b0
  have g1 := at_free b1
  have g2 := at_free b2
  have HB3 : Hid _ := ((B3.se (p := ⟨w.heap.size, 0, none⟩) (Nat.le_refl _) (.int .i64 (-1))).se (p := ⟨w.heap.size + 1, 0, none⟩) (by show _ ≤ w.heap.size + 1; omega) (.int .i64 0)).se (p := ⟨w.heap.size + 1 + 1, 0, none⟩) (by show _ ≤ w.heap.size + 1 + 1; omega) (.int .i64 2)
  clear A2 hT3 B3 K3 HB2 HW HX b0 b1 b2 c3
  go_wp2
  refine leaves_cons (f := 9) (args := #[.pointer (some ⟨w.heap.size, 0, none⟩), .pointer (some ⟨w.heap.size + 1, 0, none⟩), .pointer (some ⟨w.heap.size + 1 + 1, 0, none⟩)]) (by simp) (by simp [go_sem]) ?_
  refine (catch_idle _ _ _ _).mono ?_
  rintro e u' w'' ⟨rfl, rfl, rfl⟩
  simp [Leaves, settle, results, Tryd.results6, go_sem, d0, d1, d2]
  exact HB3.out

set_option maxHeartbeats 2000000 in
theorem reason_err (y : Int) (w : World) (hE : Et w) : Calls Tryd.prog 6 #[.iface 22 (.int .i64 y)] w fun e w' => e = .returned (.tuple #[.int .i64 (-1), .int .i64 0, .int .i64 y]) ∧ Bw w w' := by
  have hmf : ∀ (fn : Fn) (first cap : Array Value) (w : World), (Instr.makeFunc fn first cap).run Tryd.prog w = .ok (.func fn first cap) w := fun _ _ _ _ => rfl
  have B1 := ((((Bw.refl w).al (.cells #[.int .i64 0] 3)).al (.cells #[.int .i64 0] 3)).al (.cells #[.int .i64 0] 22)).al (.cells #[.pointer none] 23)
  have F4 := four w (.cells #[.int .i64 0] 3) (.cells #[.int .i64 0] 3) (.cells #[.int .i64 0] 22) (.cells #[.pointer none] 23)
  have A1 := missE y ⟨w.heap.size + 1 + 1 + 1, 0, none⟩ _ (hE.below B1)
  have HB1 : Hid _ := B1
  have HF4 : Hid _ := F4
  clear B1 F4
  go_enter_defers Tryd.func6, Tryd.ntmps6
  go_wp2_with fail
  refine A1.mono ?_; rintro e w2 ⟨rfl, hT⟩
  have B2 := HB1.out.trans hT
  have b0 := hT.at HF4.out.1
  have b1 := hT.at HF4.out.2.1
  have b2 := hT.at HF4.out.2.2.1
  have hs := at_lt (hT.at HF4.out.2.2.2)
  have K2 := (Bw.refl w2).al (.cells #[.int .i64 0] 22)
  have bn := at_new w2 (.cells #[.int .i64 0] 22)
  have A2 := hitE y ⟨w2.heap.size, 0, none⟩ (.int .i64 0) _ ((hE.below B2).below K2) (at_cell bn) (at_free bn)
  have HB2 : Hid _ := B2.al (.cells #[.int .i64 0] 22)
  have HX : Hid _ := And.intro (K2.at b0) (And.intro (K2.at b1) (And.intro (K2.at b2) bn))
  clear A1 hT B2 HB1 HF4 b0 b1 b2 K2 bn
  go_wp2_with fail
  refine A2.mono ?_; rintro e w3 ⟨rfl, hT3⟩
  have B3 := hT3.bw HB2.out (by show _ ≤ w2.heap.size; omega)
  have b0 := hT3.other HX.out.1 (by show _ ≠ w2.heap.size; omega)
  have b1 := hT3.other HX.out.2.1 (by show _ ≠ w2.heap.size; omega)
  have b2 := hT3.other HX.out.2.2.1 (by show _ ≠ w2.heap.size; omega)
  have b4 := hT3.self HX.out.2.2.2
  have d0 := at_cell b0
  have d1 := at_cell b1
  have d2 := at_cell b2
  have d4 := at_cell b4
  have g0 := at_free b0
  have g1 := at_free b1
  have g2 := at_free b2
  have n0 : w2.heap.size ≠ w.heap.size := by omega
  have n1 : w2.heap.size ≠ w.heap.size + 1 := by omega
  have n2 : w2.heap.size ≠ w.heap.size + 1 + 1 := by omega
  have HB3 : Hid _ := (((B3.dr).se (p := ⟨w.heap.size, 0, none⟩) (Nat.le_refl _) (.int .i64 (-1))).se (p := ⟨w.heap.size + 1, 0, none⟩) (by show _ ≤ w.heap.size + 1; omega) (.int .i64 0)).se (p := ⟨w.heap.size + 1 + 1, 0, none⟩) (by show _ ≤ w.heap.size + 1 + 1; omega) (.int .i64 y)
  clear A2 hT3 B3 HB2 HX b0 b1 b2 b4
  go_wp2_with fail
  go_region
  all_goals go_wp2
  all_goals refine leaves_cons (f := 9) (args := #[.pointer (some ⟨w.heap.size, 0, none⟩), .pointer (some ⟨w.heap.size + 1, 0, none⟩), .pointer (some ⟨w.heap.size + 1 + 1, 0, none⟩)]) (by simp) (by simp [go_sem]) ?_
  all_goals refine (catch_idle _ _ _ _).mono ?_
  all_goals rintro e u' w'' ⟨rfl, rfl, rfl⟩
  all_goals simp [Leaves, settle, results, Tryd.results6, go_sem, d0, d1, d2]
  all_goals exact HB3.out

end Go.Proofs.YtafidjmennpnnaaDoor
