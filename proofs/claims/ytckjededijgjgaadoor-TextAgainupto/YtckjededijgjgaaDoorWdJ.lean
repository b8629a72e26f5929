import Derived.Test.YtckjededijgjgaaDoorWdI
import Derived.Test.YtckjededijgjgaaDoorBu
namespace Go.Proofs.YtckjededijgjgaaDoor.Wd
open Go.RowKit
open Go.Proofs.YtckjededijgjgaaDoor.Pc (P4 pieces)
open Go.Proofs.YtckjededijgjgaaDoor.Enc (hide Spans)
set_option linter.unusedVariables false

theorem byte_snoc (acc : List UInt8) : Lib.byteCells acc ++ [.int .u8 32] = Lib.byteCells (acc ++ [32]) := by
  rw [Lib.byteCells_append]
  rfl

set_option maxRecDepth 100000 in
set_option maxHeartbeats 1000000 in
theorem writeBlanks_any (B b n : Nat) (hn : n ≤ 400) (acc : List UInt8) (hacc : acc.length ≤ 2000000) (w : World) (h : Lib.IsBuilderF 80 5 B b (Lib.byteCells acc) w) (hBw : B ≤ w.heap.size) :
    Calls Tryd.prog 74 #[.pointer (some ⟨b, 0, none⟩), .int .i64 (n : Int)] w fun e w' => e = .returned (.tuple #[]) ∧ Lib.IsBuilderF 80 5 B b (Lib.byteCells (acc ++ bl n)) w' ∧ Below B w w' := by
  have hnI : (n : Int) ≤ 400 := by omega
  go_enter Tryd.func74, Tryd.ntmps74
  go_wp2_with fail
  go_loopw [5] (fun i wr => ∃ k : Nat, i = .int .i64 (k : Int) ∧ k ≤ n ∧ Lib.IsBuilderF 80 5 B b (Lib.byteCells (acc ++ bl k)) wr ∧ Below B w wr) (fun i _ => n - (intOf i).toNat)
  case atStart => exact ⟨0, rfl, by omega, by simpa [bl] using h, Below.refl _ _⟩
  case round =>
    obtain ⟨k, rfl, hk, hb, hB⟩ := hrel
    by_cases hlt : k < n
    · have hltI : (k : Int) < (n : Int) := by omega
      have WB := Bu.writeByte B b _ 32 wr hb (by rw [Lib.byteCells_length, List.length_append, bl_len]; omega) (Nat.le_trans hBw hB.size)
      rw [byte_snoc, List.append_assoc, ← bl_snoc] at WB
      go_wp2_with fail
      refine WB.mono ?_; rintro e w2 ⟨rfl, hb2, hB2, _⟩
      go_wp2
      exact ⟨⟨k + 1, by go_num, by omega, .inr hb2, hB.trans hB2⟩, by simp [intOf]; omega⟩
    · have hke : k = n := by omega
      subst hke
      have hge : ¬ (k : Int) < (k : Int) := by omega
      go_wp2
      go_end0
      exact ⟨rfl, hb, hB⟩

theorem pad_bytes (s : ByteArray) (a c : Nat) : (⟨(bl a ++ s.data.toList ++ bl c).toArray⟩ : ByteArray) = ⟨(bl a).toArray⟩ ++ s ++ ⟨(bl c).toArray⟩ := by
  apply ByteArray.ext
  simp [ByteArray.data_append]

/-- what Pad writes -/
theorem pad_out (s : ByteArray) (hs : s.size ≤ 1048576) (a c : Nat) (ha : a ≤ 400) (hc : c ≤ 400) (x y : Int) (hx : x = (a : Int)) (hy : y = (c : Int)) (w1 : World) :
    Calls Tryd.prog 74 #[.pointer (some ⟨w1.heap.size, 0, none⟩), .int .i64 x] (w1.alloc (.cells #[.pointer none, .slice none 0 0] 80)) fun e w2 => e = .returned (.tuple #[]) ∧
      Calls Tryd.prog 61 #[.pointer (some ⟨w1.heap.size, 0, none⟩), .string s] w2 fun e w3 => (∃ r, e = .returned (.tuple #[.int .i64 r, .nilIface])) ∧
        Calls Tryd.prog 74 #[.pointer (some ⟨w1.heap.size, 0, none⟩), .int .i64 y] w3 fun e w4 => e = .returned (.tuple #[]) ∧
          Calls Tryd.prog 53 #[.pointer (some ⟨w1.heap.size, 0, none⟩)] w4 fun e w5 => e = .returned (.string (⟨(bl a).toArray⟩ ++ s ++ ⟨(bl c).toArray⟩)) ∧ Below w1.heap.size w1 w5 := by
  subst hx hy
  have h0 : Lib.IsBuilderF 80 5 w1.heap.size w1.heap.size (Lib.byteCells []) (w1.alloc (.cells #[.pointer none, .slice none 0 0] 80)) := Lib.IsBuilderF.of (Lib.fresh_isBuilder 80 5 w1)
  have hB0 : Below w1.heap.size w1 (w1.alloc (.cells #[.pointer none, .slice none 0 0] 80)) := (Below.refl _ w1).alloc (Nat.le_refl _) _
  refine (writeBlanks_any _ _ a ha [] (by simp) _ h0 hB0.size).mono ?_
  rintro e w2 ⟨rfl, h2, hB2⟩
  rw [List.nil_append] at h2
  have hB02 := hB0.trans hB2
  refine ⟨rfl, (Bu.writeString _ _ _ s w2 h2 (by rw [Lib.byteCells_length, bl_len]; omega) hB02.size).mono ?_⟩
  rintro e w3 ⟨rfl, h3, hB3, _⟩
  have hB03 := hB02.trans hB3
  have h3' : Lib.IsBuilderF 80 5 w1.heap.size w1.heap.size (Lib.byteCells (bl a ++ s.data.toList)) w3 := by
    rw [Lib.byteCells_append]
    exact .inr h3
  refine ⟨⟨_, rfl⟩, (writeBlanks_any _ _ c hc _ (by rw [List.length_append, bl_len, Array.length_toList]; have : s.data.size = s.size := rfl; omega) w3 h3' hB03.size).mono ?_⟩
  rintro e w4 ⟨rfl, h4, hB4⟩
  have hB04 := hB03.trans hB4
  refine ⟨rfl, (Bu.string _ _ _ w4 h4 hB04.size).mono ?_⟩
  rintro e w5 ⟨rfl, _, hB5, _⟩
  exact ⟨by rw [pad_bytes], hB04.trans hB5⟩

set_option maxRecDepth 100000 in
set_option maxHeartbeats 1000000 in
/-- what Pad answers, where it may be -/
theorem pad_any (s : ByteArray) (hs : s.size ≤ 1048576) (cols side : Int) (h0 : 0 ≤ cols) (h1 : cols ≤ 400) (s0 : 0 ≤ side) (s1 : side ≤ 2) (w : World) (R off cap : Nat) (hS : Spans w R off cap) :
    Calls Tryd.prog 37 #[.string s, .int .i64 cols, .int .i64 side] w fun e W' => e = .returned (.tuple #[.string (padT s (padM s cols) side), .int .i64 0]) ∧ Below w.heap.size w W' := by
  have WI := width_any s (by omega) w R off cap hS
  have hr := (wS_range (pieces s)).1
  have hr2 := (wS_range (pieces s)).2
  have hpl := pieces_len s
  obtain ⟨m, hmm⟩ : ∃ m : Nat, padM s cols = (m : Int) := ⟨(padM s cols).toNat, by unfold padM; split <;> omega⟩
  have hm400 : m ≤ 400 := by unfold padM at hmm; split at hmm <;> omega
  have hmax : padM s cols = if cols - wS (pieces s) ≤ 0 then 0 else cols - wS (pieces s) := rfl
  rw [hmm] at hmax ⊢
  generalize wS (pieces s) = wp at *
  have hwb : wp ≤ 2097152 := by omega
  clear hr2 hpl hmm
  have hcase : side = 0 ∨ side = 1 ∨ side = 2 := by omega
  have hmx : max 0 (cols - wp) = (m : Int) := by
    rw [hmax]
    split <;> omega
  have hmn : (m : Int) ≤ 400 := by omega
  clear hmax
  rcases hcase with rfl | rfl | rfl
  · have PO := fun w1 => pad_out s hs 0 m (by omega) (by omega) 0 (m : Int) (by omega) (by omega) w1
    have ht : padT s (m : Int) 0 = ⟨(bl 0).toArray⟩ ++ s ++ ⟨(bl m).toArray⟩ := by
      unfold padT
      rw [show (padA (m : Int) 0).toNat = 0 by simp [padA], show ((m : Int) - padA (m : Int) 0).toNat = m by simp [padA]]
    rw [ht]
    generalize (⟨(bl 0).toArray⟩ : ByteArray) ++ s ++ ⟨(bl m).toArray⟩ = OUT at *
    clear ht
    go_enter Tryd.func37, Tryd.ntmps37
    go_wp2_with fail
    refine WI.mono ?_; rintro e w1 ⟨rfl, hb1⟩
    go_wp2_with fail
    refine (PO w1).mono ?_; rintro e w2 ⟨rfl, P2⟩
    go_wp2_with fail
    refine P2.mono ?_; rintro e w3 ⟨⟨r, rfl⟩, P3⟩
    go_wp2_with fail
    refine P3.mono ?_; rintro e w4 ⟨rfl, P4⟩
    go_wp2_with fail
    refine P4.mono ?_; rintro e w5 ⟨rfl, hb5⟩
    go_wp2
    exact bodyPost_ret (v := .tuple #[.string OUT, .int .i64 0]) (by simp [results, Tryd.results37, go_sem]) rfl ⟨rfl, hb1.trans (hb5.mono hb1.size)⟩
  · have PO := fun w1 => pad_out s hs m 0 (by omega) (by omega) (m : Int) 0 (by omega) (by omega) w1
    have ht : padT s (m : Int) 1 = ⟨(bl m).toArray⟩ ++ s ++ ⟨(bl 0).toArray⟩ := by
      unfold padT
      rw [show (padA (m : Int) 1).toNat = m by simp [padA], show ((m : Int) - padA (m : Int) 1).toNat = 0 by simp [padA]]
    rw [ht]
    generalize (⟨(bl m).toArray⟩ : ByteArray) ++ s ++ ⟨(bl 0).toArray⟩ = OUT at *
    clear ht
    go_enter Tryd.func37, Tryd.ntmps37
    go_wp2_with fail
    refine WI.mono ?_; rintro e w1 ⟨rfl, hb1⟩
    go_wp2_with fail
    refine (PO w1).mono ?_; rintro e w2 ⟨rfl, P2⟩
    go_wp2_with fail
    refine P2.mono ?_; rintro e w3 ⟨⟨r, rfl⟩, P3⟩
    go_wp2_with fail
    refine P3.mono ?_; rintro e w4 ⟨rfl, P4⟩
    go_wp2_with fail
    refine P4.mono ?_; rintro e w5 ⟨rfl, hb5⟩
    go_wp2
    exact bodyPost_ret (v := .tuple #[.string OUT, .int .i64 0]) (by simp [results, Tryd.results37, go_sem]) rfl ⟨rfl, hb1.trans (hb5.mono hb1.size)⟩
  · have PO := fun w1 => pad_out s hs (m / 2) (m - m / 2) (by omega) (by omega) ((m : Int) / 2) ((m : Int) - (m : Int) / 2) (by omega) (by omega) w1
    have ht : padT s (m : Int) 2 = ⟨(bl (m / 2)).toArray⟩ ++ s ++ ⟨(bl (m - m / 2)).toArray⟩ := by
      unfold padT
      rw [show (padA (m : Int) 2).toNat = (m / 2) by simp [padA]; omega, show ((m : Int) - padA (m : Int) 2).toNat = (m - m / 2) by simp [padA]; omega]
    rw [ht]
    generalize (⟨(bl (m / 2)).toArray⟩ : ByteArray) ++ s ++ ⟨(bl (m - m / 2)).toArray⟩ = OUT at *
    clear ht
    go_enter Tryd.func37, Tryd.ntmps37
    go_wp2_with fail
    refine WI.mono ?_; rintro e w1 ⟨rfl, hb1⟩
    go_wp2_with fail
    refine (PO w1).mono ?_; rintro e w2 ⟨rfl, P2⟩
    go_wp2_with fail
    refine P2.mono ?_; rintro e w3 ⟨⟨r, rfl⟩, P3⟩
    go_wp2_with fail
    refine P3.mono ?_; rintro e w4 ⟨rfl, P4⟩
    go_wp2_with fail
    refine P4.mono ?_; rintro e w5 ⟨rfl, hb5⟩
    go_wp2
    exact bodyPost_ret (v := .tuple #[.string OUT, .int .i64 0]) (by simp [results, Tryd.results37, go_sem]) rfl ⟨rfl, hb1.trans (hb5.mono hb1.size)⟩
end Go.Proofs.YtckjededijgjgaaDoor.Wd
