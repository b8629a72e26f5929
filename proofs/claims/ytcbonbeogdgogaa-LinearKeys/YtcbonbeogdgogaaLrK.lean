import Derived.Test.YtcbonbeogdgogaaLrI
import Derived.Test.YtcbonbeogdgogaaLrJ
namespace Go.Proofs.Ytcbonbeogdgogaa.Li
open Go.RowKit
set_option linter.unusedVariables false
theorem info41 : (Try.prog.info? 41).map (·.size) = some 3 := by kernel_rfl
/-- a verdict about calls -/
def Vd (L : List Ca) (B : Nat) (w' : World) (ok : Bool) (key : Int) (ao : Option Addr) (n co : Nat) : Prop :=
  (ok = true → key = 0 ∧ ∃ o, o.length = n ∧ Fir (schOf L) 0 0 o ∧ w'.ownsRow B 3 1 (.slice ao n co) n (ints o)) ∧
  (ok = false → ao = none ∧ n = 0 ∧ co = 0 ∧ ¬ Can (schOf L) 0 0 ∧ ∃ c, L[0]? = some c ∧ key = c.key)
/-- what judge answers -/
def JuR (w : World) (L : List Ca) (e : Ending) (w' : World) : Prop :=
  ∃ ok key ao n co, e = .returned (.agg #[.bool ok, .int .u64 key, .slice ao n co]) ∧ Kp Nu w w' ∧ Vd L w.heap.size w' ok key ao n co
theorem first_of {L : List Ca} (h : ¬ Can (schOf L) 0 0) : ∃ c, L[0]? = some c := by
  cases L with
  | nil =>
    refine absurd (Can.done (fun k hk => ?_)) h
    have hk : (bset (kns []) 0).testBit k = true := hk
    exact absurd ((bset_bit _ _ _).1 hk).1 (Nat.not_lt_zero _)
  | cons c L => exact ⟨c, rfl⟩
theorem cut3 {w : World} {B C e size n : Nat} {v : Value} {xs : List Value} (h : w.ownsRow C e size v n xs) (hB : B < C) (a b c : Value) : (((w.setCell ⟨B, 0, none⟩ a).setCell ⟨B, 1, none⟩ b).setCell ⟨B, 2, none⟩ c).ownsRow B e size v n xs := by
  refine own_base (own_keep h (fun g hg => ?_)) (Nat.le_of_lt hB)
  have hg2 := own_ge h hg
  have hl := own_lt h hg
  have k := ((Kp.setCell w ⟨B, 0, none⟩ a).trans (Kp.setCell _ ⟨B, 1, none⟩ b) (fun _ _ e => e)).trans (Kp.setCell _ ⟨B, 2, none⟩ c) (fun _ _ e => e)
  exact k.block g hl (fun e => by have e : g = B := e; omega)
theorem kp3 {w w' : World} (h : Kp Nu w w') (a b c : Value) : Kp Nu w (((w'.setCell ⟨w.heap.size, 0, none⟩ a).setCell ⟨w.heap.size, 1, none⟩ b).setCell ⟨w.heap.size, 2, none⟩ c) :=
  ((h.andSet _ _ (.inl (Nat.le_refl _))).andSet _ _ (.inl (Nat.le_refl _))).andSet _ _ (.inl (Nat.le_refl _))
set_option maxRecDepth 100000 in
set_option maxHeartbeats 4000000 in
theorem judge34 (w : World) (u : Value) (L : List Ca) (hL : Cls w u L) (hN : L.length ≤ 16) : Calls Try.prog 34 #[u] w fun e w' => JuR w L e w' := by
  have kA : Kp Nu w (w.alloc (.cells #[.bool false, .int .u64 0, .slice none 0 0] 41)) := Kp.alloc _ _ _
  have bA := heap_new w (.cells #[.bool false, .int .u64 0, .slice none 0 0] 41)
  have SO := searchOf61 (w.alloc (.cells #[.bool false, .int .u64 0, .slice none 0 0] 41)) u L (hL.nu kA) hN
  have hsA : (w.alloc (.cells #[.bool false, .int .u64 0, .slice none 0 0] 41)).heap.size = w.heap.size + 1 := World.size_alloc _ _
  rw [hsA] at SO
  obtain ⟨ua, uc, rfl⟩ := hL.slice
  have HL := hide (And.intro hL (And.intro hN (And.intro kA bA)))
  clear hL hN kA bA
  go_enter Try.func34, Try.ntmps34
  go_wp2_with fail
  refine SO.mono ?_; rintro e w1 ⟨b, sa, fa, cS, cF, rfl, hlt, hS, hk1⟩
  have h2n : 0 < 2 ^ L.length := Nat.pow_pos (by decide)
  have CO := complete62 (schOf_ok L HL.out.2.1) (2 ^ L.length) 0 (by show 2 ^ L.length ≤ 0 + 2 ^ L.length; omega) w1 0 [] none 0 (fun _ => 0) h2n (Nat.succ_pos _) (Nat.zero_le _) (Nat.le_refl _) hS
  have HS := hide (And.intro hlt (And.intro hk1 hS.ne))
  have hsz1 := hk1.size
  rw [World.size_alloc] at hsz1
  have HZ : Hid (w.heap.size < w1.heap.size) := hide (by omega)
  clear SO hS hk1 hlt hsz1
  go_wp2_with fail
  refine CO.mono ?_; rintro e w2 ⟨r, rfl, o, ao, co, dd, hS2, hk2, hT, hF⟩
  rw [List.nil_append] at hS2
  have hbS := hS2.box
  have K2 : Kp Nu w w2 := ((HL.out.2.2.1.andNu HS.out.2.1).trans hk2 (fun x hx e => by
    obtain ⟨q1, q2, q3⟩ := HS.out
    have := HZ.out
    rcases e with e | e | e <;> omega))
  have bR : w2.heap[w.heap.size]? = some (.cells #[.bool false, .int .u64 0, .slice none 0 0] 41 (0, 0)) := by
    have q := box_k HL.out.2.2.2 HS.out.2.1
    refine (hk2.block _ (blk_lt q) (fun e => ?_)).trans q
    obtain ⟨q1, q2, q3⟩ := HS.out
    have := HZ.out
    rcases e with e | e | e <;> omega
  have y0 := cellAt bR 0 (v := .bool false) rfl
  have y1 := cellAt bR 1 (v := .int .u64 0) rfl
  have y2 := cellAt bR 2 (v := .slice none 0 0) rfl
  have f0 := free3 bR 0
  have f1 := free3 bR 1
  have f2 := free3 bR 2
  have HK := hide (And.intro K2 bR)
  cases r with
  | true =>
    have c4 := cellAt hbS 4 (v := .slice ao o.length co) rfl
    have HR := hide (And.intro (hT rfl) hS2.own)
    clear CO hS2 hk2 hT hF hbS K2 bR
    go_wp2
    refine bodyPost_ret (results_cell_row rfl _ _ w.heap.size 41 _ _ _ rfl (set3 (set3 (set3 HK.out.2 0 _) 1 _) 2 _) Try.underlying41 rfl info41) rfl ?_
    exact ⟨true, 0, ao, o.length, co, rfl, kp3 HK.out.1 _ _ _, fun _ => ⟨rfl, o, rfl, HR.out.1, cut3 HR.out.2 HZ.out _ _ _⟩, (fun h => by cases h)⟩
  | false =>
    obtain ⟨he, hno⟩ := hF rfl
    obtain ⟨c, hc⟩ := first_of hno
    obtain ⟨bL, off, cap, eu, hR, ok⟩ := cls_at (HL.out.1.nu K2) hc
    simp only [Value.slice.injEq, true_and] at eu
    obtain ⟨rfl, rfl⟩ := eu
    obtain ⟨_, _, _, r3, _⟩ := range_cells hR
    rw [Nat.zero_mul, Nat.add_zero] at r3
    have hl := (List.getElem?_eq_some_iff.1 hc).1
    have hlI : (0 : Int) < (L.length : Int) := by omega
    have HC := hide (And.intro hc hno)
    clear CO hS2 hk2 hT hF hbS K2 bR hR ok he hl hc hno
    go_wp2
    refine bodyPost_ret (results_cell_row rfl _ _ w.heap.size 41 _ _ _ rfl (set3 (set3 (set3 HK.out.2 0 _) 1 _) 2 _) Try.underlying41 rfl info41) rfl ?_
    exact ⟨false, c.key, none, 0, 0, rfl, kp3 HK.out.1 _ _ _, (fun h => by cases h), fun _ => ⟨rfl, rfl, rfl, HC.out.2, c, HC.out.1, rfl⟩⟩
end Go.Proofs.Ytcbonbeogdgogaa.Li
