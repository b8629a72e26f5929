import Derived.Test.YtckjededijgjgaaDoorHxB
import Derived.Test.YtckjededijgjgaaDoorDgL
import Derived.Test.YtckjededijgjgaaDoorWdG
namespace Go.Proofs.YtckjededijgjgaaDoor.Hx
open Go.RowKit Go.Sort Go.Lib
set_option linter.unusedVariables false

theorem below_grow (w : World) (k : Nat) (os : Array Obj) : Below w.heap.size w (grow (w.drewN k) os) := by
  have h := below_drewN (Below.refl w.heap.size w) k
  refine h.trans ⟨rfl, rfl, rfl, ?_, fun b hb => ?_⟩
  · show (w.drewN k).heap.size ≤ ((w.drewN k).heap ++ os).size
    rw [Array.size_append]; omega
  · show ((w.drewN k).heap ++ os)[b]? = _
    rw [Array.getElem?_append_left (by have := h.size; omega)]
theorem holds0 (w : World) (nd : Nat) (hs : nd ≤ 24) : Holds (fun (b : UInt8) => Value.int .u8 (b.toNat : Int)) (w.alloc (.cells Lib.zeros24 154)) w.heap.size 0 (Array.replicate nd (0 : UInt8)) := fun j hj => by
  have hj' : j < nd := by simpa using hj
  refine ⟨?_, World.frozen?_alloc_new _ _ _ _⟩
  rw [World.cell?_alloc_new, Lib.zeros24_at _ (by omega), getElem!_pos _ j hj]
  simp
theorem fin0 (w : World) (o : Obj) (dk : Array UInt8) (k : Nat) : Below w.heap.size w ((putRow (fun (b : UInt8) => Value.int .u8 (b.toNat : Int)) (w.alloc o) w.heap.size 0 dk).drewN k) := by
  rw [alloc_eq_grow]
  obtain ⟨os', _, e⟩ := putRow_grow_new (fun (b : UInt8) => Value.int .u8 (b.toNat : Int)) w #[o] w.heap.size 0 dk (Nat.le_refl _)
  rw [e]
  exact below_grow w k os'

set_option maxRecDepth 100000 in
set_option maxHeartbeats 1000000 in
theorem ifmtUint_10 (u : Nat) (hu64 : u < 18446744073709551616) (w : World) (htab : Lib.TabIs Tryd.prog w "internal/strconv.uint64pow10" .u64 Lib.pow10Tab) :
    Calls Tryd.prog 99 #[.int .u64 (u : Int), .int .i64 10] w fun e w' => e = .returned (.string ⟨(Lib.decDigits u).toArray⟩) ∧ Below w.heap.size w w' := by
  by_cases hs : u < 100
  · have C := Tryd.internal_strconv_small u hs w
    have hsI : (u : Int) < 100 := by omega
    go_enter Tryd.func99, Tryd.ntmps99
    go_wp2_with fail
    refine C.mono ?_; rintro e w' ⟨rfl, rfl⟩
    go_wp2
    go_ret
    exact ⟨rfl, Below.refl _ _⟩
  · have hu1 : 1 ≤ u := by omega
    have hsI : ¬ (u : Int) < 100 := by omega
    have hnd20 : Lib.nDigits u ≤ 20 := by have := Lib.numDigits_eq u hu1 hu64; split at this <;> omega
    have hal : Tryd.prog.arrayLen 154 = 24 := by kernel_rfl
    have hsl1 : ∀ W, (Instr.sliceAt 154 (.pointer (some ⟨w.heap.size, 0, none⟩)) none (some (.int .i64 (Lib.nDigits u : Int))) none).run Tryd.prog W = .ok (.slice (some ⟨w.heap.size, 0, none⟩) (Lib.nDigits u) 24) W := fun W => by
      rw [run_sliceAt_array_h W 154 ⟨w.heap.size, 0, none⟩ (by kernel_rfl) .i64 (Lib.nDigits u : Int) (by omega) (by rw [hal]; omega)]
      go_simp
    have hH0 := holds0 w (Lib.nDigits u) (by omega)
    have hfmt := Tryd.internal_strconv_formatBase10 w.heap.size 0 24 u (Array.replicate (Lib.nDigits u) 0) (w.alloc (.cells Lib.zeros24 154)) hH0 (by rw [Array.size_replicate]; exact Lib.lt_pow_nDigits u) hu64 (by rw [Array.size_replicate]; omega)
    rw [Array.size_replicate] at hfmt
    have HH0 := Lib.hid hH0
    have ND := Tryd.internal_strconv_numDigits u hu1 hu64 _ (Lib.tabIs_alloc htab (.cells Lib.zeros24 154))
    clear hH0 hal htab
    go_enter Tryd.func99, Tryd.ntmps99
    go_wp2_with fail
    refine ND.mono ?_; rintro e w' ⟨rfl, rfl⟩
    go_wp2_with fail
    refine hfmt.mono ?_
    rintro e w' ⟨rfl, k, v', dk, rfl, hF⟩
    have hcv : (convert 75 9 (.slice (some ⟨w.heap.size, 0, none⟩) (Lib.nDigits u) 24)).run Tryd.prog ((putRow (fun (b : UInt8) => Value.int .u8 (b.toNat : Int)) (w.alloc (.cells Lib.zeros24 154)) w.heap.size 0 dk).drewN k) = .ok (.string ⟨(Lib.decDigits u).toArray⟩) ((putRow (fun (b : UInt8) => Value.int .u8 (b.toNat : Int)) (w.alloc (.cells Lib.zeros24 154)) w.heap.size 0 dk).drewN k) := by
      have h := run_convert_bytes_back (P := Tryd.prog) ((putRow (fun (b : UInt8) => Value.int .u8 (b.toNat : Int)) (w.alloc (.cells Lib.zeros24 154)) w.heap.size 0 dk).drewN k) 75 9 5 ⟨w.heap.size, 0, none⟩ 24 (Lib.decDigits u) Tryd.underlying75 Tryd.underlying5 Tryd.underlying9 (fun j hj => by
        rw [Lib.row_is_numeral hF j hj, Lib.add_plain, World.cell?_drewN]
        exact cell?_putRow (fun (b : UInt8) => Value.int .u8 (b.toNat : Int)) _ w.heap.size 0 _ dk HH0.out (by rw [hF.size, Array.size_replicate]) j (by rw [hF.size]; rw [Lib.decDigits_length] at hj; exact hj))
      rw [Lib.decDigits_length] at h
      exact h
    go_wp2
    go_ret
    exact ⟨rfl, fin0 w _ dk k⟩
set_option maxHeartbeats 400000 in
/-- what strconv.FormatUint answers at base 10 -/
theorem fmtUint_10 (u : Nat) (hu64 : u < 18446744073709551616) (w : World) (htab : Lib.TabIs Tryd.prog w "internal/strconv.uint64pow10" .u64 Lib.pow10Tab) :
    Calls Tryd.prog 65 #[.int .u64 (u : Int), .int .i64 10] w fun e w' => e = .returned (.string ⟨(Lib.decDigits u).toArray⟩) ∧ Below w.heap.size w w' := by
  have C := ifmtUint_10 u hu64 w htab
  go_enter Tryd.func65, Tryd.ntmps65
  go_wp2_with fail
  refine C.mono ?_; rintro e w' ⟨rfl, hb⟩
  go_wp2
  go_ret
  exact ⟨rfl, hb⟩

/-! what Digits writes -/
def digF (n : Nat) (form : Int) : List UInt8 := if form = 0 then Lib.decDigits n else if form = 1 then [48, 120] ++ hexL n else [48, 120] ++ List.replicate (16 - (hexL n).length) 48 ++ hexL n
theorem dec_len {n : Nat} (h : n < 18446744073709551616) : (Lib.decDigits n).length ≤ 20 := by
  by_cases h1 : 1 ≤ n
  · rw [Lib.decDigits_length]
    have := Lib.numDigits_eq n h1 h; split at this <;> omega
  · rw [Lib.decDigits_one (by omega)]
    simp
/-- what both tables say that Digits reads -/
structure Tabs (w : World) : Prop where
  pow : Lib.TabIs Tryd.prog w "internal/strconv.uint64pow10" .u64 Lib.pow10Tab
  bru : w.cell? ⟨5, 15, none⟩ = some (.int .u8 4)
  five : 5 < w.heap.size

theorem cat_bytes (a b : List UInt8) : (⟨a.toArray⟩ : ByteArray) ++ ⟨b.toArray⟩ = ⟨(a ++ b).toArray⟩ := by
  apply ByteArray.ext
  simp [ByteArray.data_append]
theorem rep_zero (k : Nat) : Lib.repeatL (⟨#[48]⟩ : ByteArray).data.toList k = List.replicate k 48 := by
  induction k with
  | zero => rfl
  | succ k ih => rw [Lib.repeatL, ih]; rfl

set_option maxRecDepth 100000 in
set_option maxHeartbeats 1000000 in
theorem digits_any (n : Nat) (hn : n < 18446744073709551616) (form : Int) (h0 : 0 ≤ form) (h1 : form ≤ 2) (w : World) (hT : Tabs w) :
    Calls Tryd.prog 30 #[.int .u64 (n : Int), .int .i64 form] w fun e w' => e = .returned (.tuple #[.string ⟨(digF n form).toArray⟩, .int .i64 0]) ∧ Below w.heap.size w w' := by
  have hc : form = 0 ∨ form = 1 ∨ form = 2 := by omega
  rcases hc with rfl | rfl | rfl
  · have C := fmtUint_10 n hn w hT.pow
    have CL := fun w1 => Wd.clone_any ⟨(Lib.decDigits n).toArray⟩ w1 (by have := dec_len hn; show (Lib.decDigits n).toArray.size ≤ _; simp; omega)
    have e : digF n 0 = Lib.decDigits n := rfl
    rw [e]
    generalize (⟨(Lib.decDigits n).toArray⟩ : ByteArray) = D at *
    go_enter Tryd.func30, Tryd.ntmps30
    go_wp2_with fail
    refine C.mono ?_; rintro e w1 ⟨rfl, hb1⟩
    go_wp2_with fail
    refine (CL _).mono ?_; rintro e w2 ⟨rfl, hb2⟩
    go_wp2
    go_ret2
    exact ⟨rfl, hb1.trans (hb2.mono hb1.size)⟩
  · have C := fmtUint_16 n hn w hT.bru hT.five
    have e : (⟨(digF n 1).toArray⟩ : ByteArray) = ⟨#[48, 120]⟩ ++ ⟨(hexL n).toArray⟩ := (cat_bytes [48, 120] (hexL n)).symm
    rw [e]
    have hz : (⟨(hexL n).toArray⟩ : ByteArray).size ≤ 16 := by have := hexL_len16 hn; show (hexL n).toArray.size ≤ _; simp; omega
    generalize (⟨(hexL n).toArray⟩ : ByteArray) = D at *
    have hzI : (D.size : Int) ≤ 16 := by omega
    clear e
    go_enter Tryd.func30, Tryd.ntmps30
    go_wp2_with fail
    refine C.mono ?_; rintro e w1 ⟨rfl, hb1⟩
    go_wp2
    go_ret2
    exact ⟨rfl, hb1⟩
  · have C := fmtUint_16 n hn w hT.bru hT.five
    have hl := hexL_len16 hn
    have RP := fun w1 => Tryd.strings_Repeat ⟨#[48]⟩ (16 - (hexL n).length) w1 (by omega) (by show 1 * _ ≤ _; omega)
    have RZ : Lib.repeatL (⟨#[48]⟩ : ByteArray).data.toList (16 - (hexL n).length) = List.replicate (16 - (hexL n).length) 48 := rep_zero _
    rw [RZ] at RP
    have e : (⟨(digF n 2).toArray⟩ : ByteArray) = ⟨#[48, 120]⟩ ++ ⟨(List.replicate (16 - (hexL n).length) (48 : UInt8)).toArray⟩ ++ ⟨(hexL n).toArray⟩ := by
      rw [show (⟨#[48, 120]⟩ : ByteArray) = ⟨([48, 120] : List UInt8).toArray⟩ from rfl, cat_bytes, cat_bytes]
      rfl
    rw [e]
    have hz : (⟨(hexL n).toArray⟩ : ByteArray).size = (hexL n).length := by show (hexL n).toArray.size = _; simp
    rw [← hz] at RP hl ⊢
    generalize (⟨(hexL n).toArray⟩ : ByteArray) = D at *
    have hZ : (⟨(List.replicate (16 - D.size) (48 : UInt8)).toArray⟩ : ByteArray).size ≤ 16 := by show (List.replicate (16 - D.size) (48 : UInt8)).toArray.size ≤ _; simp
    generalize (⟨(List.replicate (16 - D.size) (48 : UInt8)).toArray⟩ : ByteArray) = Z at *
    have hZI : (Z.size : Int) ≤ 16 := by omega
    have hD : (D.size : Int) ≤ 16 := by omega
    obtain ⟨q, hq⟩ : ∃ q : Nat, 16 - D.size = q := ⟨_, rfl⟩
    have hqI : (16 : Int) - (D.size : Int) = (q : Int) := by omega
    rw [hq] at RP
    clear hz hl
    go_enter Tryd.func30, Tryd.ntmps30
    go_wp2_with fail
    refine C.mono ?_; rintro e w1 ⟨rfl, hb1⟩
    go_wp2_with fail
    refine (RP _).mono ?_; rintro e w2 ⟨rfl, hb2⟩
    go_wp2
    go_ret2
    exact ⟨rfl, hb1.trans (hb2.mono hb1.size)⟩
theorem digits_bad (n : Int) (form : Int) (h : form < 0 ∨ form > 2) (w : World) :
    Calls Tryd.prog 30 #[.int .u64 n, .int .i64 form] w fun e w' => e = .returned (.tuple #[.string ⟨#[]⟩, .int .i64 2]) ∧ w' = w := by
  have q0 : (form == 0) = false := by simp; omega
  have q1 : (form == 1) = false := by simp; omega
  have q2 : (form == 2) = false := by simp; omega
  go_enter Tryd.func30, Tryd.ntmps30
  go_wp2
  go_ret2
  exact ⟨rfl, rfl⟩
end Go.Proofs.YtckjededijgjgaaDoor.Hx
