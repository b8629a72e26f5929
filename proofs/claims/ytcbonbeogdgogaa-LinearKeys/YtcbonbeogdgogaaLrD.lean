import Derived.Test.YtcbonbeogdgogaaLrB
import Derived.Test.YtcbonbeogdgogaaLoD
namespace Go.Proofs.Ytcbonbeogdgogaa.Li
open Go.RowKit
set_option linter.unusedVariables false
theorem bit_orn {st k : Nat} (hs : st < 4294967296) (hk : k < 32) : bits .or .u32 (st : Int) (2 ^ k % 4294967296) = ((st ||| 2 ^ k : Nat) : Int) := by
  have h : (2 : Nat) ^ k < 4294967296 := Nat.lt_of_lt_of_le (Nat.pow_lt_pow_right (by decide) hk) (by decide)
  have e : ((2 : Int) ^ k) % 4294967296 = 2 ^ k := by
    have e1 : ((2 : Int) ^ k) = ((2 ^ k : Nat) : Int) := by simp
    rw [e1]
    generalize (2 : Nat) ^ k = x at h
    omega
  rw [e]
  exact bit_or hs hk
/-- the set of the first i numbers that p holds of -/
def bset (p : Nat → Bool) : Nat → Nat
  | 0 => 0
  | i + 1 => if p i = true then bset p i ||| 2 ^ i else bset p i
theorem bset_bit (p : Nat → Bool) (k : Nat) : ∀ i, (bset p i).testBit k = true ↔ k < i ∧ p k = true
  | 0 => by simp [bset]
  | i + 1 => by
    have ih := bset_bit p k i
    unfold bset
    split
    · rename_i h
      rw [put_bit, Bool.or_eq_true, ih, decide_eq_true_eq]
      constructor
      · rintro (⟨h1, h2⟩ | h1)
        · exact ⟨by omega, h2⟩
        · subst h1; exact ⟨by omega, h⟩
      · rintro ⟨h1, h2⟩
        by_cases e : i = k
        · exact .inr e
        · exact .inl ⟨by omega, h2⟩
    · rename_i h
      rw [ih]
      constructor
      · rintro ⟨h1, h2⟩; exact ⟨by omega, h2⟩
      · rintro ⟨h1, h2⟩
        by_cases e : k = i
        · subst e; exact absurd h2 h
        · exact ⟨by omega, h2⟩
theorem bset_lt (p : Nat → Bool) : ∀ i, bset p i < 2 ^ i
  | 0 => by simp [bset]
  | i + 1 => by
    have ih := bset_lt p i
    have h2 : (2 : Nat) ^ (i + 1) = 2 ^ i * 2 := Nat.pow_succ ..
    unfold bset
    split
    · exact put_lt (by omega) (by omega)
    · omega
theorem bset_in {p : Nat → Bool} {i : Nat} (h : p i = true) : bset p (i + 1) = bset p i ||| 2 ^ i := by
  show (if p i = true then _ else _) = _
  rw [if_pos h]
theorem bset_out {p : Nat → Bool} {i : Nat} (h : ¬ p i = true) : bset p (i + 1) = bset p i := by
  show (if p i = true then _ else _) = _
  rw [if_neg h]
/-- those before a call -/
def befs (L : List Ca) (c : Ca) (n : Nat) : Bool := match L[n]? with
  | none => false
  | some a => decide (¬ a.en = -1 ∧ a.en < c.beg)
theorem befs_iff {L : List Ca} {c a : Ca} {n : Nat} (h : L[n]? = some a) : befs L c n = true ↔ bef a c := by
  unfold befs
  rw [h]
  simp [bef]
/-- those whose outcome is known -/
def kns (L : List Ca) (n : Nat) : Bool := match L[n]? with
  | none => false
  | some a => decide (¬ a.en = -1)
theorem kns_iff {L : List Ca} {a : Ca} {n : Nat} (h : L[n]? = some a) : kns L n = true ↔ ¬ a.en = -1 := by
  unfold kns
  rw [h]
  simp
set_option maxRecDepth 100000 in
set_option maxHeartbeats 4000000 in
theorem thoseBefore89 (w : World) (c : Ca) (u : Value) (L : List Ca) (hL : Cls w u L) (hN : L.length ≤ 16) :
    Calls Try.prog 89 #[.agg c.cells.toArray, u] w fun e w' => e = .returned (.int .u32 (bset (befs L c) L.length : Int)) ∧ Kp Nu w w' := by
  obtain ⟨ua, uc, rfl⟩ := hL.slice
  obtain ⟨N, eN⟩ : ∃ N, L.length = N := ⟨_, rfl⟩
  have HL := hide (And.intro hL eN)
  rw [eN] at hN ⊢
  have hNI : (N : Int) ≤ 16 := by omega
  have H0 : Hid (Kp Nu w (w.alloc (.cells c.cells.toArray 30)) ∧ (w.alloc (.cells c.cells.toArray 30)).heap[w.heap.size]? = some (.cells c.cells.toArray 30 (0, 0))) := hide ⟨Kp.alloc _ _ _, heap_new w _⟩
  clear hL eN hN
  go_enter Try.func89, Try.ntmps89
  go_wp2
  go_loopw [5, 10] (fun sv iv wr => ∃ (i : Nat), iv = .int .i64 (i : Int) ∧ sv = .int .u32 (bset (befs L c) i : Int) ∧ i ≤ N ∧ Hid (Kp Nu w wr ∧ wr.heap[w.heap.size]? = some (.cells c.cells.toArray 30 (0, 0)))) (fun _ iv _ => N - (intOf iv).toNat)
  case atStart => exact ⟨0, rfl, rfl, Nat.zero_le _, H0⟩
  case round =>
    obtain ⟨i, rfl, rfl, hi, hI⟩ := hrel
    have hi0 : (0 : Int) ≤ (i : Int) := by omega
    have eti : (i : Int).toNat = i := by omega
    by_cases hlt : i < N
    · have hltI : (i : Int) < (N : Int) := by omega
      have hi32 : (i : Int) ≤ 32 := by omega
      obtain ⟨d, hd⟩ : ∃ d, L[i]? = some d := ⟨_, List.getElem?_eq_getElem (by rw [HL.out.2]; exact hlt)⟩
      obtain ⟨b, off, cap, eu, hR, ok⟩ := cls_at (HL.out.1.nu hI.out.1) hd
      rw [HL.out.2] at eu
      simp only [Value.slice.injEq, true_and] at eu
      obtain ⟨rfl, rfl⟩ := eu
      obtain ⟨r0, r1, r2, r3, r4, r5, r6, r7, r8, r9, r10, r11, r12⟩ := range_cells hR
      have BF := isBefore63 (wr.alloc (.cells d.cells.toArray 30)) d c
      have kA : Kp Nu wr (wr.alloc (.cells d.cells.toArray 30)) := Kp.alloc _ _ _
      have hcB := box_k hI.out.2 kA
      have hdB := heap_new wr (.cells d.cells.toArray 30)
      have hlb : bset (befs L c) i < 65536 := Nat.lt_of_lt_of_le (bset_lt _ i) (two17 (by omega))
      have eor := bit_orn (st := bset (befs L c) i) (k := i) (by omega) (by omega)
      have HD := hide (And.intro hd (And.intro kA (And.intro hdB hcB)))
      clear hd kA hR ok hdB hcB
      go_wp2_with (first | (guard_target =~ wpList _ _ _ ({ dst := _, op := Op.load 30 (Operand.tmp 7), type := _, pos := _, after := _, guard := _ } :: _) _ _; refine wpList_load_all 30 13 (.tmp 7) rfl rfl info30 _ Try.underlying30 rfl _ rfl HD.out.2.2.1 rfl ?_) | (guard_target =~ wpList _ _ _ ({ dst := _, op := Op.load 30 (Operand.tmp 2), type := _, pos := _, after := _, guard := _ } :: _) _ _; refine wpList_load_all 30 13 (.tmp 2) rfl rfl info30 _ Try.underlying30 rfl _ rfl HD.out.2.2.2 rfl ?_))
      refine BF.mono ?_; rintro e w1 ⟨⟨bb, rfl, hbb⟩, hk1⟩
      have HB := hide hbb
      have HK : Hid (Kp Nu w w1 ∧ w1.heap[w.heap.size]? = some (.cells c.cells.toArray 30 (0, 0))) := hide ⟨(hI.out.1.andNu HD.out.2.1).andNu hk1, box_k HD.out.2.2.2 hk1⟩
      clear hbb hk1 BF r0 r1 r2 r3 r4 r5 r6 r7 r8 r9 r10 r11 r12
      cases bb with
      | true =>
        have e1 : bset (befs L c) (i + 1) = bset (befs L c) i ||| 2 ^ i := bset_in ((befs_iff HD.out.1).2 (HB.out.1 rfl))
        go_wp2
        refine ⟨⟨i + 1, by go_num, ?_, by omega, HK⟩, by simp [intOf]; omega⟩
        rw [e1]
      | false =>
        have e1 : bset (befs L c) (i + 1) = bset (befs L c) i := bset_out (fun hb => by
          have := HB.out.2 ((befs_iff HD.out.1).1 hb)
          cases this)
        go_wp2
        exact ⟨⟨i + 1, by go_num, by rw [e1], by omega, HK⟩, by simp [intOf]; omega⟩
    · have hge : ¬ (i : Int) < (N : Int) := by omega
      obtain rfl : i = N := by omega
      go_wp2
      go_ret
      exact ⟨rfl, hI.out.1⟩
end Go.Proofs.Ytcbonbeogdgogaa.Li
