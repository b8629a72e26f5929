import Derived.Test.YtckjededijgjgaaDoorUrG
import Derived.Test.YtckjededijgjgaaDoorRnE
namespace Go.Proofs.YtckjededijgjgaaDoor.Ur
open Go.RowKit
open Go.Proofs.YtckjededijgjgaaDoor.Uq (unqF three unquote_any)
open Go.Proofs.YtckjededijgjgaaDoor.Enc (Spans)
set_option linter.unusedVariables false

theorem str_beq (a : List UInt8) : ((⟨a.toArray⟩ : ByteArray).toList == (⟨a.toArray⟩ : ByteArray).toList) = true := by simp
/-- both, at one text -/
theorem both {x : ByteArray} {a : List UInt8} {p e : Int} (h : Hid (unqF x = (a, p, e))) (hx : x.size ≤ 11000000) :
    (∀ (w : World) (R off cap : Nat), Spans w R off cap → Calls Tryd.prog 33 #[.string x] w fun e' W' => e' = .returned (.tuple #[.string ⟨a.toArray⟩, .int .i64 p, .int .i64 e]) ∧ Below w.heap.size w W') ∧
    (∀ w : World, Calls Tryd.prog 39 #[.string x] w fun e' W' => e' = .returned (.tuple #[.string ⟨a.toArray⟩, .int .i64 p, .int .i64 e]) ∧ Below w.heap.size w W') := by
  refine ⟨fun w R off cap hS => ?_, fun w => ?_⟩
  · have := unquote_any x hx w R off cap hS
    rw [h.out] at this
    exact this
  · have := refUnquote_any x hx w
    rw [h.out] at this
    exact this

set_option maxRecDepth 100000 in
set_option maxHeartbeats 1600000 in
theorem unquotes_walk (s : ByteArray) (hs : s.size ≤ 1048576) (w : World) (R off cap : Nat) (hS : Spans w R off cap) :
    Calls Tryd.prog 14 #[.string s] w fun e w' => e = .returned (.bool true) ∧ Below w.heap.size w w' := by
  have nm := fun n w => Rn.num_any n w
  have RQ : Calls Tryd.prog 26 #[.string s] w fun e W' => e = .returned (.string (Cb.Q s)) ∧ Below w.heap.size w W' := Qt.refQuote_any s hs w
  have hz3 := Cb.Q_bound s hs
  generalize Cb.Q s = S3 at *
  have hone : (⟨#[34]⟩ : ByteArray).size = 1 := rfl
  have hz1 : ((⟨#[34]⟩ : ByteArray) ++ s ++ ⟨#[34]⟩).size ≤ 11000000 := by
    rw [ByteArray.size_append, ByteArray.size_append, hone]; omega
  have hz2 : ((⟨#[34]⟩ : ByteArray) ++ s).size ≤ 11000000 := by
    rw [ByteArray.size_append, hone]; omega
  have hz0 : s.size ≤ 11000000 := by omega
  go_enter Tryd.func14, Tryd.ntmps14
  go_wp2_with fail
  refine RQ.mono ?_; rintro e w0 ⟨rfl, hb0⟩
  have hS0 := hS.below hb0 (Nat.le_refl _)
  generalize hS1e : (⟨#[34]⟩ : ByteArray) ++ s ++ ⟨#[34]⟩ = S1 at *
  generalize hS2e : (⟨#[34]⟩ : ByteArray) ++ s = S2 at *
  clear hS1e hS2e RQ hone hs
  obtain ⟨a0, p0, e0, h0⟩ : ∃ a p e, unqF s = (a, p, e) := ⟨_, _, _, rfl⟩
  obtain ⟨U0, V0⟩ := both (hide h0) hz0
  have b0 := str_beq a0
  have bp0 : (p0 == p0) = true := by simp
  have be0 : (e0 == e0) = true := by simp
  have HU0 := hide U0
  have HV0 := hide V0
  clear h0 U0 V0
  obtain ⟨a1, p1, e1, h1⟩ : ∃ a p e, unqF S1 = (a, p, e) := ⟨_, _, _, rfl⟩
  obtain ⟨U1, V1⟩ := both (hide h1) hz1
  have b1 := str_beq a1
  have bp1 : (p1 == p1) = true := by simp
  have be1 : (e1 == e1) = true := by simp
  have HU1 := hide U1
  have HV1 := hide V1
  clear h1 U1 V1
  obtain ⟨a2, p2, e2, h2⟩ : ∃ a p e, unqF S2 = (a, p, e) := ⟨_, _, _, rfl⟩
  obtain ⟨U2, V2⟩ := both (hide h2) hz2
  have b2 := str_beq a2
  have bp2 : (p2 == p2) = true := by simp
  have be2 : (e2 == e2) = true := by simp
  have HU2 := hide U2
  have HV2 := hide V2
  clear h2 U2 V2
  obtain ⟨a3, p3, e3, h3⟩ : ∃ a p e, unqF S3 = (a, p, e) := ⟨_, _, _, rfl⟩
  obtain ⟨U3, V3⟩ := both (hide h3) hz3
  have b3 := str_beq a3
  have bp3 : (p3 == p3) = true := by simp
  have be3 : (e3 == e3) = true := by simp
  have HU3 := hide U3
  have HV3 := hide V3
  clear h3 U3 V3
  have hS1 : Spans (w0.alloc (.cells #[.string s, .string S1, .string S2, .string S3] 9)) R off cap := hS0.below ((Below.refl w0.heap.size w0).alloc (Nat.le_refl _) _) (Nat.le_refl _)
  have hlt1 : w0.heap.size < (w0.alloc (.cells #[.string s, .string S1, .string S2, .string S3] 9)).heap.size := by simp
  have hbw : Below w.heap.size w (w0.alloc (.cells #[.string s, .string S1, .string S2, .string S3] 9)) := hb0.alloc hb0.size _
  have C0 : (w0.alloc (.cells #[.string s, .string S1, .string S2, .string S3] 9)).cell? ⟨w0.heap.size, 0, none⟩ = some (.string s) := by simp [World.cell?_alloc_new]
  have C1 : (w0.alloc (.cells #[.string s, .string S1, .string S2, .string S3] 9)).cell? ⟨w0.heap.size, 1, none⟩ = some (.string S1) := by simp [World.cell?_alloc_new]
  have C2 : (w0.alloc (.cells #[.string s, .string S1, .string S2, .string S3] 9)).cell? ⟨w0.heap.size, 2, none⟩ = some (.string S2) := by simp [World.cell?_alloc_new]
  have C3 : (w0.alloc (.cells #[.string s, .string S1, .string S2, .string S3] 9)).cell? ⟨w0.heap.size, 3, none⟩ = some (.string S3) := by simp [World.cell?_alloc_new]
  go_wp2_with fail
  generalize w0.alloc (.cells #[.string s, .string S1, .string S2, .string S3] 9) = w1 at *
  go_loopw [4] (fun i wr => ∃ k : Nat, i = .int .i64 (k : Int) ∧ k ≤ 4 ∧ Below w1.heap.size w1 wr) (fun i _ => 4 - (intOf i).toNat)
  case atStart => exact ⟨0, rfl, by omega, Below.refl _ _⟩
  case round =>
    obtain ⟨k, rfl, hk, hB⟩ := hrel
    have hSr := hS1.below hB (Nat.le_refl _)
    have c0 := (hB.cell (p := ⟨w0.heap.size, 0, none⟩) hlt1).trans C0
    have c1 := (hB.cell (p := ⟨w0.heap.size, 1, none⟩) hlt1).trans C1
    have c2 := (hB.cell (p := ⟨w0.heap.size, 2, none⟩) hlt1).trans C2
    have c3 := (hB.cell (p := ⟨w0.heap.size, 3, none⟩) hlt1).trans C3
    match k, hk with
    | 0, _ =>
      go_wp2_with fail
      refine (HU0.out _ R off cap hSr).mono ?_
      rintro e w2 ⟨rfl, hb2⟩
      have c' := (hb2.cell (p := ⟨w0.heap.size, 0, none⟩) (Nat.lt_of_lt_of_le hlt1 hB.size)).trans c0
      go_wp2_with fail
      refine (HV0.out _).mono ?_
      rintro e w3 ⟨rfl, hb3⟩
      go_wp2_with fail
      refine (nm _ _).mono ?_; rintro e w4 ⟨rfl, rfl⟩
      have hB3 := hB.trans ((hb2.trans (hb3.mono hb2.size)).mono hB.size)
      go_wp2
      exact ⟨⟨1, rfl, by omega, hB3⟩, by simp [intOf]⟩
    | 1, _ =>
      go_wp2_with fail
      refine (HU1.out _ R off cap hSr).mono ?_
      rintro e w2 ⟨rfl, hb2⟩
      have c' := (hb2.cell (p := ⟨w0.heap.size, 1, none⟩) (Nat.lt_of_lt_of_le hlt1 hB.size)).trans c1
      go_wp2_with fail
      refine (HV1.out _).mono ?_
      rintro e w3 ⟨rfl, hb3⟩
      go_wp2_with fail
      refine (nm _ _).mono ?_; rintro e w4 ⟨rfl, rfl⟩
      have hB3 := hB.trans ((hb2.trans (hb3.mono hb2.size)).mono hB.size)
      go_wp2
      exact ⟨⟨2, rfl, by omega, hB3⟩, by simp [intOf]⟩
    | 2, _ =>
      go_wp2_with fail
      refine (HU2.out _ R off cap hSr).mono ?_
      rintro e w2 ⟨rfl, hb2⟩
      have c' := (hb2.cell (p := ⟨w0.heap.size, 2, none⟩) (Nat.lt_of_lt_of_le hlt1 hB.size)).trans c2
      go_wp2_with fail
      refine (HV2.out _).mono ?_
      rintro e w3 ⟨rfl, hb3⟩
      go_wp2_with fail
      refine (nm _ _).mono ?_; rintro e w4 ⟨rfl, rfl⟩
      have hB3 := hB.trans ((hb2.trans (hb3.mono hb2.size)).mono hB.size)
      go_wp2
      exact ⟨⟨3, rfl, by omega, hB3⟩, by simp [intOf]⟩
    | 3, _ =>
      go_wp2_with fail
      refine (HU3.out _ R off cap hSr).mono ?_
      rintro e w2 ⟨rfl, hb2⟩
      have c' := (hb2.cell (p := ⟨w0.heap.size, 3, none⟩) (Nat.lt_of_lt_of_le hlt1 hB.size)).trans c3
      go_wp2_with fail
      refine (HV3.out _).mono ?_
      rintro e w3 ⟨rfl, hb3⟩
      go_wp2_with fail
      refine (nm _ _).mono ?_; rintro e w4 ⟨rfl, rfl⟩
      have hB3 := hB.trans ((hb2.trans (hb3.mono hb2.size)).mono hB.size)
      go_wp2
      exact ⟨⟨4, rfl, by omega, hB3⟩, by simp [intOf]⟩
    | 4, _ =>
      go_wp2
      go_ret
      exact ⟨rfl, hbw.trans (hB.mono hbw.size)⟩
end Go.Proofs.YtckjededijgjgaaDoor.Ur
