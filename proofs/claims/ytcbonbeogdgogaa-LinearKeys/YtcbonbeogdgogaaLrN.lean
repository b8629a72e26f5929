import Derived.Test.YtcbonbeogdgogaaLrJ
import Derived.Deep.QuietTactic
import Derived.BigQuiet
namespace Go.Proofs.Ytcbonbeogdgogaa.Li
open Go.RowKit
set_option linter.unusedVariables false
/-- calls of one key, no Scans -/
def OneK (L : List Ca) : Prop := ∀ c ∈ L, ¬ c.k = 5 ∧ ∀ d, L[0]? = some d → c.key = d.key
theorem OneK.one {L : List Ca} (h : OneK L) (hm : AllMB L) : ∃ key, One L key := by
  cases L with
  | nil => exact ⟨0, hm, fun c hc => by cases hc⟩
  | cons d L => exact ⟨d.key, hm, fun c hc => ⟨(h c hc).1, (h c hc).2 d rfl⟩⟩
/-- what clean answers -/
def ClR (w : World) (L : List Ca) (e : Ending) (w' : World) : Prop := ∃ b : Bool, e = .returned (.bool b) ∧ (b = true → AllMB L ∧ OneK L) ∧ Kp Nu w w'
/-- a call that is clean -/
def Cl1 (L : List Ca) (c : Ca) : Prop := MBc c ∧ ¬ c.k = 5 ∧ ∀ d, L[0]? = some d → c.key = d.key
set_option maxRecDepth 100000 in
set_option maxHeartbeats 8000000 in
theorem clean16 (w : World) (u : Value) (L : List Ca) (hL : Cls w u L) (hN : L.length ≤ 16) : Calls Try.prog 16 #[u] w fun e w' => ClR w L e w' := by
  obtain ⟨ua, uc, rfl⟩ := hL.slice
  obtain ⟨N, eN⟩ : ∃ N, L.length = N := ⟨_, rfl⟩
  have HL := hide (And.intro hL eN)
  rw [eN] at hN ⊢
  have hNI : (N : Int) ≤ 16 := by omega
  clear hL eN hN
  go_enter Try.func16, Try.ntmps16
  go_wp2
  go_loopw [3] (fun iv wr => ∃ i : Nat, iv = .int .i64 (i : Int) ∧ i ≤ N ∧ Hid (Kp Nu w wr ∧ ∀ j c, j < i → L[j]? = some c → Cl1 L c)) (fun iv _ => N - (intOf iv).toNat)
  case atStart => exact ⟨0, rfl, Nat.zero_le _, hide ⟨Kp.refl _ _, fun j c hj => by omega⟩⟩
  case round =>
    obtain ⟨i, rfl, hi, hI⟩ := hrel
    have hi0 : (0 : Int) ≤ (i : Int) := by omega
    by_cases hlt : i < N
    · have hltI : (i : Int) < (N : Int) := by omega
      have hN0 : (0 : Int) < (N : Int) := by omega
      obtain ⟨c, hc⟩ : ∃ c, L[i]? = some c := ⟨_, List.getElem?_eq_getElem (by rw [HL.out.2]; exact hlt)⟩
      obtain ⟨d, hd⟩ : ∃ d, L[0]? = some d := ⟨_, List.getElem?_eq_getElem (by rw [HL.out.2]; omega)⟩
      obtain ⟨b, off, cap, eu, hR, ok⟩ := cls_at (HL.out.1.nu hI.out.1) hc
      obtain ⟨b2, off2, cap2, eu2, hR2, ok2⟩ := cls_at (HL.out.1.nu hI.out.1) hd
      rw [HL.out.2] at eu eu2
      simp only [Value.slice.injEq, true_and] at eu
      obtain ⟨rfl, rfl⟩ := eu
      simp only [Value.slice.injEq, Option.some.injEq, Addr.mk.injEq, true_and, and_true] at eu2
      obtain ⟨⟨rfl, rfl⟩, _⟩ := eu2
      obtain ⟨_, _, _, z3, _⟩ := range_cells hR2
      rw [Nat.zero_mul, Nat.add_zero] at z3
      obtain ⟨r0, r1, r2, r3, r4, r5, r6, r7, r8, r9, r10, r11, r12⟩ := range_cells hR
      have kA : Kp Nu wr (wr.alloc (.cells #[.int .u8 c.who, .int .u64 c.seq, .int .u8 c.k, .int .u64 c.key, .int .u64 c.hi, .slice c.va c.V.length c.vc, .slice c.oa c.O.length c.oc, .bool c.has, .int .u8 c.lim, .int .u8 c.st, .slice c.ya c.Y.length c.yc, .int .i64 c.beg, .int .i64 c.en] 30)) := Kp.alloc _ _ _
      have bA := heap_new wr (.cells #[.int .u8 c.who, .int .u64 c.seq, .int .u8 c.k, .int .u64 c.key, .int .u64 c.hi, .slice c.va c.V.length c.vc, .slice c.oa c.O.length c.oc, .bool c.has, .int .u8 c.lim, .int .u8 c.st, .slice c.ya c.Y.length c.yc, .int .i64 c.beg, .int .i64 c.en] 30)
      obtain ⟨wA, eA⟩ : ∃ wA, wr.alloc (.cells #[.int .u8 c.who, .int .u64 c.seq, .int .u8 c.k, .int .u64 c.key, .int .u64 c.hi, .slice c.va c.V.length c.vc, .slice c.oa c.O.length c.oc, .bool c.has, .int .u8 c.lim, .int .u8 c.st, .slice c.ya c.Y.length c.yc, .int .i64 c.beg, .int .i64 c.en] 30) = wA := ⟨_, rfl⟩
      rw [eA] at kA bA
      have y3 : wA.cell? ⟨b, off + 3, none⟩ = some (.int .u64 d.key) := (World.cell?_of_block (kA.block _ (World.block_lt_of_cell? wr _ z3) (fun h => h))).trans z3
      have a2 := cellAt bA 2 (v := .int .u8 c.k) rfl
      have a3 := cellAt bA 3 (v := .int .u64 c.key) rfl
      have a9 := cellAt bA 9 (v := .int .u8 c.st) rfl
      have a10 := cellAt bA 10 (v := .slice c.ya c.Y.length c.yc) rfl
      have a11 := cellAt bA 11 (v := .int .i64 c.beg) rfl
      have a12 := cellAt bA 12 (v := .int .i64 c.en) rfl
      obtain ⟨k, ek⟩ : ∃ k, c.k = k := ⟨_, rfl⟩
      obtain ⟨key, ekey⟩ : ∃ key, c.key = key := ⟨_, rfl⟩
      obtain ⟨st, est⟩ : ∃ st, c.st = st := ⟨_, rfl⟩
      obtain ⟨beg, ebeg⟩ : ∃ beg, c.beg = beg := ⟨_, rfl⟩
      obtain ⟨en, een⟩ : ∃ en, c.en = en := ⟨_, rfl⟩
      obtain ⟨yn, eyn⟩ : ∃ yn, c.Y.length = yn := ⟨_, rfl⟩
      obtain ⟨k0, ek0⟩ : ∃ k0, d.key = k0 := ⟨_, rfl⟩
      have HC := hide (And.intro hc (And.intro hd (And.intro (hI.out.1.andNu kA) (And.intro ek (And.intro ekey (And.intro est (And.intro ebeg (And.intro een (And.intro eyn ek0)))))))))
      have more : MB k st beg en c.has yn → (k = 1 ∨ k = 2) → key = k0 → ∀ j c2, j < i + 1 → L[j]? = some c2 → Cl1 L c2 := fun h1 h2 h3 j c2 hj hc2 => by
        obtain ⟨q1, q2, q3, q4, q5, q6, q7, q8, q9, q10⟩ := HC.out
        by_cases e : j = i
        · subst e
          rw [q1] at hc2
          cases hc2
          refine ⟨by unfold MBc; rw [q4, q6, q7, q8, q9]; exact h1, by rw [q4]; omega, fun d2 hd2 => ?_⟩
          rw [q2] at hd2
          cases hd2
          rw [q5, q10]
          exact h3
        · exact hI.out.2 j c2 (by omega) hc2
      have HM := hide more
      rw [ek] at a2 r2
      rw [ekey] at a3 r3
      rw [est] at a9 r9
      rw [ebeg] at a11 r11
      rw [een] at a12 r12
      rw [eyn] at a10 r10
      rw [ek0] at y3 z3
      rw [ek, ekey, est, ebeg, een, eyn] at eA
      clear hR hR2 ok ok2 hc hd kA bA more ek ekey est ebeg een eyn ek0
      go_wp2_with fail
      clear r0 r1 r2 r3 r4 r5 r6 r7 r8 r9 r10 r11 r12 z3
      by_cases h1 : key = k0
      · by_cases h2 : beg < 0
        · have x1 : (key == k0) = true := by simp; omega
          have w1 : (key != k0) = false := by simp; omega
          have x2 : decide (beg < 0) = true := by simp; omega
          have HH := hide (And.intro h1 (h2))
          clear h1 h2
          go_quiet (fail)
          go_wp2
          go_ret
          exact ⟨false, rfl, (fun h => by cases h), HC.out.2.2.1.andNu ⟨rfl, rfl, rfl, Nat.le_refl _, fun _ _ _ => rfl⟩⟩
        · by_cases h3 : k = 1
          · by_cases h5 : en = -1
            · by_cases h6 : st = 0
              · by_cases h7 : (yn : Int) = 0
                · have x3 : (key == k0) = true := by simp; omega
                  have w3 : (key != k0) = false := by simp; omega
                  have x4 : decide (beg < 0) = false := by simp; omega
                  have x5 : (k == 1) = true := by simp; omega
                  have w5 : (k != 1) = false := by simp; omega
                  have x6 : (k == 2) = false := by simp; omega
                  have w6 : (k != 2) = true := by simp; omega
                  have x7 : (en == (-1)) = true := by simp; omega
                  have w7 : (en != (-1)) = false := by simp; omega
                  have x8 : decide (en > beg) = false := by simp; omega
                  have x9 : (st == 0) = true := by simp; omega
                  have w9 : (st != 0) = false := by simp; omega
                  have x10 : ((yn : Int) == 0) = true := by simp; omega
                  have w10 : ((yn : Int) != 0) = false := by simp; omega
                  have HH := hide (And.intro h1 (And.intro h2 (And.intro h3 (And.intro h5 (And.intro h6 (h7))))))
                  clear h1 h2 h3 h5 h6 h7
                  go_quiet (fail)
                  go_wp2
                  exact ⟨⟨i + 1, by go_num, by omega, hide ⟨HC.out.2.2.1.andNu ⟨rfl, rfl, rfl, Nat.le_refl _, fun _ _ _ => rfl⟩, HM.out (by have q := HH.out; exact ⟨by omega, by omega, by unfold Mans; omega⟩) (by have q := HH.out; omega) (by have q := HH.out; omega)⟩⟩, by simp [intOf]; omega⟩
                · have x11 : (key == k0) = true := by simp; omega
                  have w11 : (key != k0) = false := by simp; omega
                  have x12 : decide (beg < 0) = false := by simp; omega
                  have x13 : (k == 1) = true := by simp; omega
                  have w13 : (k != 1) = false := by simp; omega
                  have x14 : (k == 2) = false := by simp; omega
                  have w14 : (k != 2) = true := by simp; omega
                  have x15 : (en == (-1)) = true := by simp; omega
                  have w15 : (en != (-1)) = false := by simp; omega
                  have x16 : decide (en > beg) = false := by simp; omega
                  have x17 : (st == 0) = true := by simp; omega
                  have w17 : (st != 0) = false := by simp; omega
                  have x18 : ((yn : Int) == 0) = false := by simp; omega
                  have w18 : ((yn : Int) != 0) = true := by simp; omega
                  have HH := hide (And.intro h1 (And.intro h2 (And.intro h3 (And.intro h5 (And.intro h6 (h7))))))
                  clear h1 h2 h3 h5 h6 h7
                  go_quiet (fail)
                  go_wp2
                  go_ret
                  exact ⟨false, rfl, (fun h => by cases h), HC.out.2.2.1.andNu ⟨rfl, rfl, rfl, Nat.le_refl _, fun _ _ _ => rfl⟩⟩
              · have x19 : (key == k0) = true := by simp; omega
                have w19 : (key != k0) = false := by simp; omega
                have x20 : decide (beg < 0) = false := by simp; omega
                have x21 : (k == 1) = true := by simp; omega
                have w21 : (k != 1) = false := by simp; omega
                have x22 : (k == 2) = false := by simp; omega
                have w22 : (k != 2) = true := by simp; omega
                have x23 : (en == (-1)) = true := by simp; omega
                have w23 : (en != (-1)) = false := by simp; omega
                have x24 : decide (en > beg) = false := by simp; omega
                have x25 : (st == 0) = false := by simp; omega
                have w25 : (st != 0) = true := by simp; omega
                have HH := hide (And.intro h1 (And.intro h2 (And.intro h3 (And.intro h5 (h6)))))
                clear h1 h2 h3 h5 h6
                go_quiet (fail)
                go_wp2
                go_ret
                exact ⟨false, rfl, (fun h => by cases h), HC.out.2.2.1.andNu ⟨rfl, rfl, rfl, Nat.le_refl _, fun _ _ _ => rfl⟩⟩
            · by_cases h6 : beg < en
              · by_cases h8 : st = 1
                · have x26 : (key == k0) = true := by simp; omega
                  have w26 : (key != k0) = false := by simp; omega
                  have x27 : decide (beg < 0) = false := by simp; omega
                  have x28 : (k == 1) = true := by simp; omega
                  have w28 : (k != 1) = false := by simp; omega
                  have x29 : (k == 2) = false := by simp; omega
                  have w29 : (k != 2) = true := by simp; omega
                  have x30 : (en == (-1)) = false := by simp; omega
                  have w30 : (en != (-1)) = true := by simp; omega
                  have x31 : decide (en > beg) = true := by simp; omega
                  have x32 : (st == 1) = true := by simp; omega
                  have w32 : (st != 1) = false := by simp; omega
                  have HH := hide (And.intro h1 (And.intro h2 (And.intro h3 (And.intro h5 (And.intro h6 (h8))))))
                  clear h1 h2 h3 h5 h6 h8
                  go_quiet (fail)
                  go_wp2
                  exact ⟨⟨i + 1, by go_num, by omega, hide ⟨HC.out.2.2.1.andNu ⟨rfl, rfl, rfl, Nat.le_refl _, fun _ _ _ => rfl⟩, HM.out (by have q := HH.out; exact ⟨by omega, by omega, by unfold Mans; omega⟩) (by have q := HH.out; omega) (by have q := HH.out; omega)⟩⟩, by simp [intOf]; omega⟩
                · by_cases h9 : st = 2
                  · by_cases h10 : (yn : Int) = 0
                    · have x33 : (key == k0) = true := by simp; omega
                      have w33 : (key != k0) = false := by simp; omega
                      have x34 : decide (beg < 0) = false := by simp; omega
                      have x35 : (k == 1) = true := by simp; omega
                      have w35 : (k != 1) = false := by simp; omega
                      have x36 : (k == 2) = false := by simp; omega
                      have w36 : (k != 2) = true := by simp; omega
                      have x37 : (en == (-1)) = false := by simp; omega
                      have w37 : (en != (-1)) = true := by simp; omega
                      have x38 : decide (en > beg) = true := by simp; omega
                      have x39 : (st == 1) = false := by simp; omega
                      have w39 : (st != 1) = true := by simp; omega
                      have x40 : (st == 2) = true := by simp; omega
                      have w40 : (st != 2) = false := by simp; omega
                      have x41 : ((yn : Int) == 0) = true := by simp; omega
                      have w41 : ((yn : Int) != 0) = false := by simp; omega
                      have HH := hide (And.intro h1 (And.intro h2 (And.intro h3 (And.intro h5 (And.intro h6 (And.intro h8 (And.intro h9 (h10))))))))
                      clear h1 h2 h3 h5 h6 h8 h9 h10
                      go_quiet (fail)
                      go_wp2
                      exact ⟨⟨i + 1, by go_num, by omega, hide ⟨HC.out.2.2.1.andNu ⟨rfl, rfl, rfl, Nat.le_refl _, fun _ _ _ => rfl⟩, HM.out (by have q := HH.out; exact ⟨by omega, by omega, by unfold Mans; omega⟩) (by have q := HH.out; omega) (by have q := HH.out; omega)⟩⟩, by simp [intOf]; omega⟩
                    · have x42 : (key == k0) = true := by simp; omega
                      have w42 : (key != k0) = false := by simp; omega
                      have x43 : decide (beg < 0) = false := by simp; omega
                      have x44 : (k == 1) = true := by simp; omega
                      have w44 : (k != 1) = false := by simp; omega
                      have x45 : (k == 2) = false := by simp; omega
                      have w45 : (k != 2) = true := by simp; omega
                      have x46 : (en == (-1)) = false := by simp; omega
                      have w46 : (en != (-1)) = true := by simp; omega
                      have x47 : decide (en > beg) = true := by simp; omega
                      have x48 : (st == 1) = false := by simp; omega
                      have w48 : (st != 1) = true := by simp; omega
                      have x49 : (st == 2) = true := by simp; omega
                      have w49 : (st != 2) = false := by simp; omega
                      have x50 : ((yn : Int) == 0) = false := by simp; omega
                      have w50 : ((yn : Int) != 0) = true := by simp; omega
                      have HH := hide (And.intro h1 (And.intro h2 (And.intro h3 (And.intro h5 (And.intro h6 (And.intro h8 (And.intro h9 (h10))))))))
                      clear h1 h2 h3 h5 h6 h8 h9 h10
                      go_quiet (fail)
                      go_wp2
                      go_ret
                      exact ⟨false, rfl, (fun h => by cases h), HC.out.2.2.1.andNu ⟨rfl, rfl, rfl, Nat.le_refl _, fun _ _ _ => rfl⟩⟩
                  · have x51 : (key == k0) = true := by simp; omega
                    have w51 : (key != k0) = false := by simp; omega
                    have x52 : decide (beg < 0) = false := by simp; omega
                    have x53 : (k == 1) = true := by simp; omega
                    have w53 : (k != 1) = false := by simp; omega
                    have x54 : (k == 2) = false := by simp; omega
                    have w54 : (k != 2) = true := by simp; omega
                    have x55 : (en == (-1)) = false := by simp; omega
                    have w55 : (en != (-1)) = true := by simp; omega
                    have x56 : decide (en > beg) = true := by simp; omega
                    have x57 : (st == 1) = false := by simp; omega
                    have w57 : (st != 1) = true := by simp; omega
                    have x58 : (st == 2) = false := by simp; omega
                    have w58 : (st != 2) = true := by simp; omega
                    have HH := hide (And.intro h1 (And.intro h2 (And.intro h3 (And.intro h5 (And.intro h6 (And.intro h8 (h9)))))))
                    clear h1 h2 h3 h5 h6 h8 h9
                    go_quiet (fail)
                    go_wp2
                    go_ret
                    exact ⟨false, rfl, (fun h => by cases h), HC.out.2.2.1.andNu ⟨rfl, rfl, rfl, Nat.le_refl _, fun _ _ _ => rfl⟩⟩
              · have x59 : (key == k0) = true := by simp; omega
                have w59 : (key != k0) = false := by simp; omega
                have x60 : decide (beg < 0) = false := by simp; omega
                have x61 : (k == 1) = true := by simp; omega
                have w61 : (k != 1) = false := by simp; omega
                have x62 : (k == 2) = false := by simp; omega
                have w62 : (k != 2) = true := by simp; omega
                have x63 : (en == (-1)) = false := by simp; omega
                have w63 : (en != (-1)) = true := by simp; omega
                have x64 : decide (en > beg) = false := by simp; omega
                have HH := hide (And.intro h1 (And.intro h2 (And.intro h3 (And.intro h5 (h6)))))
                clear h1 h2 h3 h5 h6
                go_quiet (fail)
                go_wp2
                go_ret
                exact ⟨false, rfl, (fun h => by cases h), HC.out.2.2.1.andNu ⟨rfl, rfl, rfl, Nat.le_refl _, fun _ _ _ => rfl⟩⟩
          · by_cases h4 : k = 2
            · by_cases h5 : en = -1
              · by_cases h6 : st = 0
                · by_cases h7 : (yn : Int) = 0
                  · have x65 : (key == k0) = true := by simp; omega
                    have w65 : (key != k0) = false := by simp; omega
                    have x66 : decide (beg < 0) = false := by simp; omega
                    have x67 : (k == 1) = false := by simp; omega
                    have w67 : (k != 1) = true := by simp; omega
                    have x68 : (k == 2) = true := by simp; omega
                    have w68 : (k != 2) = false := by simp; omega
                    have x69 : (en == (-1)) = true := by simp; omega
                    have w69 : (en != (-1)) = false := by simp; omega
                    have x70 : decide (en > beg) = false := by simp; omega
                    have x71 : (st == 0) = true := by simp; omega
                    have w71 : (st != 0) = false := by simp; omega
                    have x72 : ((yn : Int) == 0) = true := by simp; omega
                    have w72 : ((yn : Int) != 0) = false := by simp; omega
                    have HH := hide (And.intro h1 (And.intro h2 (And.intro h3 (And.intro h4 (And.intro h5 (And.intro h6 (h7)))))))
                    clear h1 h2 h3 h4 h5 h6 h7
                    go_quiet (fail)
                    go_wp2
                    exact ⟨⟨i + 1, by go_num, by omega, hide ⟨HC.out.2.2.1.andNu ⟨rfl, rfl, rfl, Nat.le_refl _, fun _ _ _ => rfl⟩, HM.out (by have q := HH.out; exact ⟨by omega, by omega, by unfold Mans; omega⟩) (by have q := HH.out; omega) (by have q := HH.out; omega)⟩⟩, by simp [intOf]; omega⟩
                  · have x73 : (key == k0) = true := by simp; omega
                    have w73 : (key != k0) = false := by simp; omega
                    have x74 : decide (beg < 0) = false := by simp; omega
                    have x75 : (k == 1) = false := by simp; omega
                    have w75 : (k != 1) = true := by simp; omega
                    have x76 : (k == 2) = true := by simp; omega
                    have w76 : (k != 2) = false := by simp; omega
                    have x77 : (en == (-1)) = true := by simp; omega
                    have w77 : (en != (-1)) = false := by simp; omega
                    have x78 : decide (en > beg) = false := by simp; omega
                    have x79 : (st == 0) = true := by simp; omega
                    have w79 : (st != 0) = false := by simp; omega
                    have x80 : ((yn : Int) == 0) = false := by simp; omega
                    have w80 : ((yn : Int) != 0) = true := by simp; omega
                    have HH := hide (And.intro h1 (And.intro h2 (And.intro h3 (And.intro h4 (And.intro h5 (And.intro h6 (h7)))))))
                    clear h1 h2 h3 h4 h5 h6 h7
                    go_quiet (fail)
                    go_wp2
                    go_ret
                    exact ⟨false, rfl, (fun h => by cases h), HC.out.2.2.1.andNu ⟨rfl, rfl, rfl, Nat.le_refl _, fun _ _ _ => rfl⟩⟩
                · have x81 : (key == k0) = true := by simp; omega
                  have w81 : (key != k0) = false := by simp; omega
                  have x82 : decide (beg < 0) = false := by simp; omega
                  have x83 : (k == 1) = false := by simp; omega
                  have w83 : (k != 1) = true := by simp; omega
                  have x84 : (k == 2) = true := by simp; omega
                  have w84 : (k != 2) = false := by simp; omega
                  have x85 : (en == (-1)) = true := by simp; omega
                  have w85 : (en != (-1)) = false := by simp; omega
                  have x86 : decide (en > beg) = false := by simp; omega
                  have x87 : (st == 0) = false := by simp; omega
                  have w87 : (st != 0) = true := by simp; omega
                  have HH := hide (And.intro h1 (And.intro h2 (And.intro h3 (And.intro h4 (And.intro h5 (h6))))))
                  clear h1 h2 h3 h4 h5 h6
                  go_quiet (fail)
                  go_wp2
                  go_ret
                  exact ⟨false, rfl, (fun h => by cases h), HC.out.2.2.1.andNu ⟨rfl, rfl, rfl, Nat.le_refl _, fun _ _ _ => rfl⟩⟩
              · by_cases h6 : beg < en
                · by_cases h8 : st = 1
                  · by_cases h10 : (yn : Int) = 0
                    · have x88 : (key == k0) = true := by simp; omega
                      have w88 : (key != k0) = false := by simp; omega
                      have x89 : decide (beg < 0) = false := by simp; omega
                      have x90 : (k == 1) = false := by simp; omega
                      have w90 : (k != 1) = true := by simp; omega
                      have x91 : (k == 2) = true := by simp; omega
                      have w91 : (k != 2) = false := by simp; omega
                      have x92 : (en == (-1)) = false := by simp; omega
                      have w92 : (en != (-1)) = true := by simp; omega
                      have x93 : decide (en > beg) = true := by simp; omega
                      have x94 : (st == 1) = true := by simp; omega
                      have w94 : (st != 1) = false := by simp; omega
                      have x95 : ((yn : Int) == 0) = true := by simp; omega
                      have w95 : ((yn : Int) != 0) = false := by simp; omega
                      have HH := hide (And.intro h1 (And.intro h2 (And.intro h3 (And.intro h4 (And.intro h5 (And.intro h6 (And.intro h8 (h10))))))))
                      clear h1 h2 h3 h4 h5 h6 h8 h10
                      go_quiet (fail)
                      go_wp2
                      exact ⟨⟨i + 1, by go_num, by omega, hide ⟨HC.out.2.2.1.andNu ⟨rfl, rfl, rfl, Nat.le_refl _, fun _ _ _ => rfl⟩, HM.out (by have q := HH.out; exact ⟨by omega, by omega, by unfold Mans; omega⟩) (by have q := HH.out; omega) (by have q := HH.out; omega)⟩⟩, by simp [intOf]; omega⟩
                    · have x96 : (key == k0) = true := by simp; omega
                      have w96 : (key != k0) = false := by simp; omega
                      have x97 : decide (beg < 0) = false := by simp; omega
                      have x98 : (k == 1) = false := by simp; omega
                      have w98 : (k != 1) = true := by simp; omega
                      have x99 : (k == 2) = true := by simp; omega
                      have w99 : (k != 2) = false := by simp; omega
                      have x100 : (en == (-1)) = false := by simp; omega
                      have w100 : (en != (-1)) = true := by simp; omega
                      have x101 : decide (en > beg) = true := by simp; omega
                      have x102 : (st == 1) = true := by simp; omega
                      have w102 : (st != 1) = false := by simp; omega
                      have x103 : ((yn : Int) == 0) = false := by simp; omega
                      have w103 : ((yn : Int) != 0) = true := by simp; omega
                      have HH := hide (And.intro h1 (And.intro h2 (And.intro h3 (And.intro h4 (And.intro h5 (And.intro h6 (And.intro h8 (h10))))))))
                      clear h1 h2 h3 h4 h5 h6 h8 h10
                      go_quiet (fail)
                      go_wp2
                      go_ret
                      exact ⟨false, rfl, (fun h => by cases h), HC.out.2.2.1.andNu ⟨rfl, rfl, rfl, Nat.le_refl _, fun _ _ _ => rfl⟩⟩
                  · have x104 : (key == k0) = true := by simp; omega
                    have w104 : (key != k0) = false := by simp; omega
                    have x105 : decide (beg < 0) = false := by simp; omega
                    have x106 : (k == 1) = false := by simp; omega
                    have w106 : (k != 1) = true := by simp; omega
                    have x107 : (k == 2) = true := by simp; omega
                    have w107 : (k != 2) = false := by simp; omega
                    have x108 : (en == (-1)) = false := by simp; omega
                    have w108 : (en != (-1)) = true := by simp; omega
                    have x109 : decide (en > beg) = true := by simp; omega
                    have x110 : (st == 1) = false := by simp; omega
                    have w110 : (st != 1) = true := by simp; omega
                    have HH := hide (And.intro h1 (And.intro h2 (And.intro h3 (And.intro h4 (And.intro h5 (And.intro h6 (h8)))))))
                    clear h1 h2 h3 h4 h5 h6 h8
                    go_quiet (fail)
                    go_wp2
                    go_ret
                    exact ⟨false, rfl, (fun h => by cases h), HC.out.2.2.1.andNu ⟨rfl, rfl, rfl, Nat.le_refl _, fun _ _ _ => rfl⟩⟩
                · have x111 : (key == k0) = true := by simp; omega
                  have w111 : (key != k0) = false := by simp; omega
                  have x112 : decide (beg < 0) = false := by simp; omega
                  have x113 : (k == 1) = false := by simp; omega
                  have w113 : (k != 1) = true := by simp; omega
                  have x114 : (k == 2) = true := by simp; omega
                  have w114 : (k != 2) = false := by simp; omega
                  have x115 : (en == (-1)) = false := by simp; omega
                  have w115 : (en != (-1)) = true := by simp; omega
                  have x116 : decide (en > beg) = false := by simp; omega
                  have HH := hide (And.intro h1 (And.intro h2 (And.intro h3 (And.intro h4 (And.intro h5 (h6))))))
                  clear h1 h2 h3 h4 h5 h6
                  go_quiet (fail)
                  go_wp2
                  go_ret
                  exact ⟨false, rfl, (fun h => by cases h), HC.out.2.2.1.andNu ⟨rfl, rfl, rfl, Nat.le_refl _, fun _ _ _ => rfl⟩⟩
            · have x117 : (key == k0) = true := by simp; omega
              have w117 : (key != k0) = false := by simp; omega
              have x118 : decide (beg < 0) = false := by simp; omega
              have x119 : (k == 1) = false := by simp; omega
              have w119 : (k != 1) = true := by simp; omega
              have x120 : (k == 2) = false := by simp; omega
              have w120 : (k != 2) = true := by simp; omega
              have HH := hide (And.intro h1 (And.intro h2 (And.intro h3 (h4))))
              clear h1 h2 h3 h4
              go_quiet (fail)
              go_wp2
              go_ret
              exact ⟨false, rfl, (fun h => by cases h), HC.out.2.2.1.andNu ⟨rfl, rfl, rfl, Nat.le_refl _, fun _ _ _ => rfl⟩⟩
      · have x121 : (key == k0) = false := by simp; omega
        have w121 : (key != k0) = true := by simp; omega
        have HH := hide (h1)
        clear h1
        go_quiet (fail)
        go_wp2
        go_ret
        exact ⟨false, rfl, (fun h => by cases h), HC.out.2.2.1.andNu ⟨rfl, rfl, rfl, Nat.le_refl _, fun _ _ _ => rfl⟩⟩
    · have hge : ¬ (i : Int) < (N : Int) := by omega
      go_wp2
      go_ret
      have hall : ∀ c ∈ L, Cl1 L c := fun c hc => by
        obtain ⟨j, hj⟩ := List.getElem?_of_mem hc
        have := (List.getElem?_eq_some_iff.1 hj).1
        exact hI.out.2 j c (by have := HL.out.2; omega) hj
      exact ⟨true, rfl, fun _ => ⟨fun c hc => (hall c hc).1, fun c hc => (hall c hc).2⟩, hI.out.1⟩
end Go.Proofs.Ytcbonbeogdgogaa.Li
