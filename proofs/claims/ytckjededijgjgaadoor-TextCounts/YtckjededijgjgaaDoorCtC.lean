import Derived.Test.YtckjededijgjgaaDoorCtB
import Derived.Test.YtckjededijgjgaaDoorNumC
import Derived.Test.YtckjededijgjgaaDoorDgC
namespace Go.Proofs.YtckjededijgjgaaDoor.Hx
open Go.RowKit
open Go.Proofs.YtckjededijgjgaaDoor.Num (numF number_any three)
set_option linter.unusedVariables false

theorem Tabs.below {w w' : World} (h : Tabs w) (hb : Below w.heap.size w w') : Tabs w' := by
  obtain ⟨h1, h2, h3⟩ := h
  refine ⟨?_, ?_, by have := hb.size; omega⟩
  · unfold Lib.TabIs World.var? at h1 ⊢
    have g2 : Tryd.prog.globalNamed "internal/strconv.uint64pow10" = some 2 := by kernel_rfl
    rw [g2] at h1 ⊢
    simp only [Option.bind_some] at h1 ⊢
    rw [hb.block 2 (by omega)]
    exact h1
  · unfold World.cell? at h2 ⊢
    rw [hb.block 5 h3]
    exact h2

/-- what is known of a number's digits -/
structure Df (n : Nat) (k : Nat) (s : ByteArray) : Prop where
  dig : ∀ w, Tabs w → Calls Tryd.prog 30 #[.int .u64 (n : Int), .int .i64 (k : Int)] w fun e w' => e = .returned (.tuple #[.string s, .int .i64 0]) ∧ Below w.heap.size w w'
  num : ∀ w, Calls Tryd.prog 32 #[.string s] w fun e w' => e = .returned (.tuple #[.int .u64 (n : Int), .int .i64 0, .int .i64 0]) ∧ w' = w
  small : s.size ≤ 20
  all : k = 2 → s.size = 18
  first : k < 2 → 0 < n → ∃ h : 2 * k < s.size, ((s[2 * k].toNat : Int) == 48) = false

theorem df_of (n k : Nat) (l : List UInt8) (hl : digF n (k : Int) = l) (hn : n < 18446744073709551616) (hk : k ≤ 2) (h20 : l.length ≤ 20) (hnum : numF l = (n, 0, 0)) (h18 : k = 2 → l.length = 18) (hf : k < 2 → 0 < n → ∃ c, l[2 * k]? = some c ∧ c ≠ 48) : Df n k ⟨l.toArray⟩ := by
  have hz : (⟨l.toArray⟩ : ByteArray).size = l.length := by show l.toArray.size = _; simp
  refine ⟨fun w hT => ?_, fun w => ?_, by rw [hz]; exact h20, fun h => by rw [hz]; exact h18 h, fun h1 h2 => ?_⟩
  · have := digits_any n hn (k : Int) (by omega) (by omega) w hT
    rw [hl] at this
    exact this
  · have := number_any ⟨l.toArray⟩ w (by omega)
    rw [show (⟨l.toArray⟩ : ByteArray).data.toList = l by simp, hnum] at this
    exact this
  · obtain ⟨c, h3, h4⟩ := hf h1 h2
    have hlt : 2 * k < l.length := (List.getElem?_eq_some_iff.1 h3).1
    refine ⟨by rw [hz]; exact hlt, ?_⟩
    have e : (⟨l.toArray⟩ : ByteArray)[2 * k]'(by rw [hz]; exact hlt) = c := by
      have : l[2 * k] = c := (List.getElem?_eq_some_iff.1 h3).2
      rw [← this]
      simp [ByteArray.getElem_eq_getElem_data]
    rw [e, beq_eq_false_iff_ne]
    intro e2
    apply h4
    rw [← UInt8.toNat_inj]
    have : (48 : UInt8).toNat = 48 := rfl
    omega

theorem df_all (n : Nat) (hn : n < 18446744073709551616) (k : Nat) (hk : k ≤ 2) : ∃ s, Df n k s := by
  have hc : k = 0 ∨ k = 1 ∨ k = 2 := by omega
  have hl16 := hexL_len16 hn
  rcases hc with rfl | rfl | rfl
  · refine ⟨_, df_of n 0 _ rfl hn hk (dec_len hn) (num_dec n hn) (fun h => by omega) (fun _ h => ?_)⟩
    obtain ⟨c, r, h1, h2⟩ := dec_first n h
    exact ⟨c, by show (Lib.decDigits n)[0]? = _; rw [h1]; rfl, h2⟩
  · refine ⟨_, df_of n 1 ([48, 120] ++ hexL n) rfl hn hk (by simp; omega) (num_one n hn) (fun h => by omega) (fun _ h => ?_)⟩
    obtain ⟨c, r, h1, h2⟩ := hex_first n h
    exact ⟨c, by rw [h1]; rfl, h2⟩
  · exact ⟨_, df_of n 2 ([48, 120] ++ (List.replicate (16 - (hexL n).length) 48 ++ hexL n)) (List.append_assoc _ _ _) hn hk (by simp; omega) (num_two n hn) (fun _ => by simp; omega) (fun h => by omega)⟩

set_option maxRecDepth 100000 in
set_option maxHeartbeats 1600000 in
theorem counts_walk (n : Nat) (hn : n < 18446744073709551616) (w : World) (hT : Tabs w) :
    Calls Tryd.prog 9 #[.int .u64 (n : Int)] w fun e w' => e = .returned (.bool true) ∧ Below w.heap.size w w' := by
  obtain ⟨s0, D0⟩ := df_all n hn 0 (by omega)
  obtain ⟨s1, D1⟩ := df_all n hn 1 (by omega)
  obtain ⟨s2, D2⟩ := df_all n hn 2 (by omega)
  have bn : ((n : Int) != (n : Int)) = false := by simp
  go_enter Tryd.func9, Tryd.ntmps9
  go_wp2_with fail
  go_loopw [3] (fun a wr => ∃ k : Nat, a = .int .i64 (k : Int) ∧ k ≤ 3 ∧ Below w.heap.size w wr) (fun a _ => 3 - (intOf a).toNat)
  case atStart => exact ⟨0, rfl, by omega, Below.refl _ _⟩
  case round =>
    obtain ⟨k, rfl, hk, hB⟩ := hrel
    have hT' := hT.below hB
    have hc : k = 0 ∨ k = 1 ∨ k = 2 ∨ k = 3 := by omega
    clear hk
    rcases hc with rfl | rfl | rfl | rfl
    · have hsz := D0.small
      have DG := D0.dig wr hT'
      have NM := D0.num
      by_cases h0 : 0 < n
      · obtain ⟨hlt, hq⟩ := D0.first (by omega) h0
        have hltI : (0 : Int) < (s0.size : Int) := by omega
        have bz : ((n : Int) != 0) = true := by simp; omega
        have hq' : ((s0[0].toNat : Int) == 48) = false := hq
        have hne : ¬ s0 = ByteArray.empty := fun e => by rw [e] at hltI; exact absurd hltI (by decide)
        clear D0 D1 D2 hq h0
        go_wp2_with fail
        refine DG.mono ?_; rintro e w1 ⟨rfl, hb1⟩
        go_wp2_with fail
        refine (NM _).mono ?_; rintro e w2 ⟨rfl, hw⟩; obtain rfl := hw.symm
        go_wp2
        exact ⟨⟨1, by go_num, by omega, hB.trans (hb1.mono hB.size)⟩, by simp [intOf]⟩
      · have bz : ((n : Int) != 0) = false := by simp; omega
        clear D0 D1 D2 h0
        go_wp2_with fail
        refine DG.mono ?_; rintro e w1 ⟨rfl, hb1⟩
        go_wp2_with fail
        refine (NM _).mono ?_; rintro e w2 ⟨rfl, hw⟩; obtain rfl := hw.symm
        go_wp2
        exact ⟨⟨1, by go_num, by omega, hB.trans (hb1.mono hB.size)⟩, by simp [intOf]⟩
    · have hsz := D1.small
      have DG := D1.dig wr hT'
      have NM := D1.num
      by_cases h0 : 0 < n
      · obtain ⟨hlt, hq⟩ := D1.first (by omega) h0
        have hltI : (2 : Int) < (s1.size : Int) := by omega
        have bz : ((n : Int) != 0) = true := by simp; omega
        have hq' : ((s1[2].toNat : Int) == 48) = false := hq
        clear D0 D1 D2 hq h0
        go_wp2_with fail
        refine DG.mono ?_; rintro e w1 ⟨rfl, hb1⟩
        go_wp2_with fail
        refine (NM _).mono ?_; rintro e w2 ⟨rfl, hw⟩; obtain rfl := hw.symm
        go_wp2
        exact ⟨⟨2, by go_num, by omega, hB.trans (hb1.mono hB.size)⟩, by simp [intOf]⟩
      · have bz : ((n : Int) != 0) = false := by simp; omega
        clear D0 D1 D2 h0
        go_wp2_with fail
        refine DG.mono ?_; rintro e w1 ⟨rfl, hb1⟩
        go_wp2_with fail
        refine (NM _).mono ?_; rintro e w2 ⟨rfl, hw⟩; obtain rfl := hw.symm
        go_wp2
        exact ⟨⟨2, by go_num, by omega, hB.trans (hb1.mono hB.size)⟩, by simp [intOf]⟩
    · have DG := D2.dig wr hT'
      have NM := D2.num
      have hz := D2.all rfl
      have b18 : ((s2.size : Int) != 18) = false := by simp; omega
      clear D0 D1 D2 hz
      go_wp2_with fail
      refine DG.mono ?_; rintro e w1 ⟨rfl, hb1⟩
      go_wp2_with fail
      refine (NM _).mono ?_; rintro e w2 ⟨rfl, hw⟩; obtain rfl := hw.symm
      go_wp2
      exact ⟨⟨3, by go_num, by omega, hB.trans (hb1.mono hB.size)⟩, by simp [intOf]⟩
    · go_wp2
      go_ret
      exact ⟨rfl, hB⟩
end Go.Proofs.YtckjededijgjgaaDoor.Hx
