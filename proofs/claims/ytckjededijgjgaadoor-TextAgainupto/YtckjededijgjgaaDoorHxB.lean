import Derived.Lib.Strings
import Derived.Test.YtckjededijgjgaaDoorRows
import Derived.WalkKit
import Derived.WalkLawsBesides
import Derived.WalkSpells
import Derived.Outline
import Derived.Lib.ItoaMem
import Derived.Laws.IdiomStrings
import Derived.Laws.Bits64b
import Derived.RangeFuncBox
import Derived.Shelf.Strconv.Itoa1
namespace Go.Proofs.YtckjededijgjgaaDoor.Hx
set_option linter.unusedVariables false

/-- a digit's letter -/
def hexD (d : Nat) : Nat := if d < 10 then 48 + d else 87 + d
theorem hexD_lt (d : Nat) (h : d < 16) : hexD d < 256 := by unfold hexD; split <;> omega
/-- the hexadecimal numeral, as numbers: the fuel is the number of digits -/
def hexF : Nat → Nat → List UInt8
  | 0, _ => []
  | f + 1, n => if n < 16 then [UInt8.ofNat (hexD n)] else hexF f (n / 16) ++ [UInt8.ofNat (hexD (n % 16))]
def hexL (n : Nat) : List UInt8 := hexF (n + 1) n

theorem hexF_more (f : Nat) : ∀ n, n < f → hexF f n = hexF (f + 1) n := by
  induction f with
  | zero => intro n h; omega
  | succ f ih =>
    intro n h
    rw [hexF, hexF]
    split
    · rfl
    · rw [ih (n / 16) (by omega)]
theorem hexF_eq (n : Nat) : ∀ f, n < f → hexF f n = hexL n := by
  intro f h
  obtain ⟨d, rfl⟩ : ∃ d, f = n + 1 + d := ⟨f - (n + 1), by omega⟩
  clear h
  induction d with
  | zero => rfl
  | succ d ih => rw [← ih, ← Nat.add_assoc, ← hexF_more (n + 1 + d) n (by omega)]
theorem hexL_small {n : Nat} (h : n < 16) : hexL n = [UInt8.ofNat (hexD n)] := by
  unfold hexL
  rw [hexF, if_pos h]
theorem hexL_big {n : Nat} (h : ¬ n < 16) : hexL n = hexL (n / 16) ++ [UInt8.ofNat (hexD (n % 16))] := by
  have e : hexL n = hexF n (n / 16) ++ [UInt8.ofNat (hexD (n % 16))] := by
    unfold hexL
    rw [hexF, if_neg h]
  rw [e, hexF_eq (n / 16) n (by omega)]
theorem hexL_len (k : Nat) : ∀ n, n < 16 ^ (k + 1) → 1 ≤ (hexL n).length ∧ (hexL n).length ≤ k + 1 := by
  induction k with
  | zero =>
    intro n h
    rw [hexL_small (by simpa using h)]
    simp
  | succ k ih =>
    intro n h
    by_cases h1 : n < 16
    · rw [hexL_small h1]; simp
    · rw [hexL_big h1, List.length_append]
      have := ih (n / 16) (by rw [Nat.pow_succ] at h; exact Nat.div_lt_of_lt_mul (by rw [Nat.mul_comm]; exact h))
      simp
      omega
theorem hexL_len16 {n : Nat} (h : n < 18446744073709551616) : 1 ≤ (hexL n).length ∧ (hexL n).length ≤ 16 := hexL_len 15 n (by simpa using h)
/-- a number below 16 and its letter -/
theorem hexD_u8 (d : Nat) (h : d < 16) : ((UInt8.ofNat (hexD d)).toNat : Int) = (hexD d : Int) := by
  have := hexD_lt d h
  simp
  omega
end Go.Proofs.YtckjededijgjgaaDoor.Hx
namespace Go.Proofs.YtckjededijgjgaaDoor.Hx
open Go.RowKit Go.Sort
set_option linter.unusedVariables false

theorem hide {p : Prop} (h : p) : Hid p := h

theorem key16 : IntKind.u64.wrap (bits BinOp.and IntKind.u64 (16 : Int) (IntKind.u64.wrap (-(16 : Int))) * 285870213051353865) / 288230376151711744 = 15 := by kernel_rfl

set_option maxHeartbeats 1000000 in
theorem tz64 (w : World) (hcell : w.cell? ⟨5, 15, none⟩ = some (.int .u8 4)) :
    Calls Tryd.prog 137 #[.int .u64 16] w fun e w' => e = .returned (.int .i64 4) ∧ w' = w := by
  go_enter Tryd.func137, Tryd.ntmps137
  go_wp2_with (simp only [key16])
  go_ret
  exact ⟨rfl, rfl⟩
theorem tz (w : World) (hcell : w.cell? ⟨5, 15, none⟩ = some (.int .u8 4)) :
    Calls Tryd.prog 134 #[.int .u64 16] w fun e w' => e = .returned (.int .i64 4) ∧ w' = w := by
  go_enter Tryd.func134, Tryd.ntmps134
  go_wp2_with (go_at_call 137; refine (tz64 _ hcell).mono ?_; rintro e w' ⟨rfl, rfl⟩)
  go_ret
  exact ⟨rfl, rfl⟩
theorem pow2 (w : World) :
    Calls Tryd.prog 133 #[.int .i64 16] w fun e w' => e = .returned (.bool true) ∧ w' = w := by
  have key : bits BinOp.and IntKind.i64 (16 : Int) 15 = 0 := by kernel_rfl
  go_enter Tryd.func133, Tryd.ntmps133
  go_wp2_with (simp only [key])
  go_ret
  exact ⟨rfl, rfl⟩

/-- the block of 65 bytes: its last ones are T -/
def Arr (B : Nat) (T : List UInt8) (W : World) : Prop := ∃ cur : Array Value, W.heap[B]? = some (.cells cur 166 (0, 0)) ∧ cur.size = 65 ∧ (∀ j, j < 65 → ∃ z, cur[j]? = some (.int .u8 z)) ∧ ∀ j (h : j < T.length), cur[65 - T.length + j]? = some (.int .u8 (T[j].toNat : Int))

theorem zeros (j : Nat) (h : j < 65) : Tryd.zeroCells166[j]? = some (.int .u8 0) := by
  have e : Tryd.zeroCells166 = Array.replicate 65 (.int .u8 0) := by kernel_rfl
  rw [e, Array.getElem?_replicate, if_pos h]
theorem arr_new (w : World) : Arr w.heap.size [] (w.alloc (.cells Tryd.zeroCells166 166)) :=
  ⟨_, World.alloc_heap_new w _, by kernel_rfl, fun j h => ⟨0, zeros j h⟩, fun j h => by simp at h⟩
theorem Arr.cell {B : Nat} {T : List UInt8} {W : World} (h : Arr B T W) (j : Nat) (hj : j < 65) : ∃ z, W.cell? ⟨B, j, none⟩ = some (.int .u8 z) := by
  obtain ⟨cur, h1, h2, h3, h4⟩ := h
  obtain ⟨z, hz⟩ := h3 j hj
  exact ⟨z, by simp [World.cell?, h1, hz]⟩
theorem Arr.frozen {B : Nat} {T : List UInt8} {W : World} (h : Arr B T W) (j : Nat) : W.frozen? ⟨B, j, none⟩ = false := by
  obtain ⟨cur, h1, h2, h3, h4⟩ := h
  simp [World.frozen?, h1]
theorem Arr.tail {B : Nat} {T : List UInt8} {W : World} (h : Arr B T W) (j : Nat) (hj : j < T.length) : W.cell? ⟨B, 65 - T.length + j, none⟩ = some (.int .u8 (T[j].toNat : Int)) := by
  obtain ⟨cur, h1, h2, h3, h4⟩ := h
  simp [World.cell?, h1, h4 j hj]
theorem Arr.put {B : Nat} {T : List UInt8} {W : World} (h : Arr B T W) (q : Nat) (hq : q + T.length = 64) (c : UInt8) : Arr B (c :: T) (W.setCell ⟨B, q, none⟩ (.int .u8 (c.toNat : Int))) := by
  obtain ⟨cur, h1, h2, h3, h4⟩ := h
  obtain ⟨hlt, hk⟩ := Array.getElem?_eq_some_iff.1 h1
  refine ⟨cur.setIfInBounds q (.int .u8 (c.toNat : Int)), ?_, by simp [h2], fun j hj => ?_, fun j hj => ?_⟩
  · show (W.heap.modify B _)[B]? = _
    rw [Array.getElem?_eq_getElem (by rw [Array.size_modify]; exact hlt), Array.getElem_modify_self, hk]
    rfl
  · rw [Array.getElem?_setIfInBounds]
    split
    · rename_i e; subst e; rw [if_pos (by omega)]; exact ⟨_, rfl⟩
    · exact h3 j hj
  · rw [Array.getElem?_setIfInBounds]
    simp only [List.length_cons] at hj ⊢
    cases j with
    | zero => rw [if_pos (by omega), if_pos (by omega)]; rfl
    | succ j =>
      rw [if_neg (by omega)]
      have := h4 j (by omega)
      rw [show 65 - (T.length + 1) + (j + 1) = 65 - T.length + j by omega, this]
      rfl

theorem and15 (m : Nat) (h : m < 18446744073709551616) : bits BinOp.and IntKind.u64 (m : Int) 15 = ((m % 16 : Nat) : Int) := by
  have h1 := bits_and_u64_nat m 15 h (by omega)
  rw [show (15 : Nat) = 2 ^ 4 - 1 from rfl, Nat.and_two_pow_sub_one_eq_mod] at h1
  exact h1
theorem dig_size : Lib.digits36.size = 36 := Lib.digits36_size
theorem dig_at : ∀ d : Fin 16, (Lib.digits36.data.toList[d.val]?) = some (UInt8.ofNat (hexD d.val)) := by decide +kernel
theorem dig_run (t : TypeId) (ht : Tryd.prog.underlying t = some .string) (d : Nat) (hd : d < 16) (w : World) : (Instr.index t (.string Lib.digits36) (.int .u64 (d : Int))).run Tryd.prog w = .ok (.int .u8 ((UInt8.ofNat (hexD d)).toNat : Int)) w := by
  have h1 : d < Lib.digits36.size := by rw [dig_size]; omega
  rw [run_index_string w t Lib.digits36 .u64 _ ht, dif_pos ⟨by omega, by omega⟩]
  have h2 := dig_at ⟨d, hd⟩
  simp only at h2
  have h3 : Lib.digits36.data.toList[d]? = some Lib.digits36[d] := by
    rw [List.getElem?_eq_getElem (by simpa using h1)]
    rfl
  rw [h3] at h2
  have h4 := Option.some.inj h2
  simp only [Int.toNat_natCast, h4]

set_option maxRecDepth 100000 in
set_option maxHeartbeats 1000000 in
theorem formatBits_16 (n : Nat) (hn : n < 18446744073709551616) (w : World) (hcell : w.cell? ⟨5, 15, none⟩ = some (.int .u8 4)) (h5 : 5 < w.heap.size) :
    Calls Tryd.prog 120 #[.slice none 0 0, .int .u64 (n : Int), .int .i64 16, .bool false, .bool false] w fun e w' => e = .returned (.tuple #[.slice none 0 0, .string ⟨(hexL n).toArray⟩]) ∧ Below w.heap.size w w' := by
  have hc2 : (w.alloc (.cells Tryd.zeroCells166 166)).cell? ⟨5, 15, none⟩ = some (.int .u8 4) := by
    unfold World.cell? at hcell ⊢; rw [Below.heap_alloc w _ 5 h5]; exact hcell
  have hA0 := arr_new w
  have hB0 : Below w.heap.size w (w.alloc (.cells Tryd.zeroCells166 166)) := (Below.refl _ w).alloc (Nat.le_refl _) _
  have hl16 := hexL_len16 hn
  go_enter Tryd.func120, Tryd.ntmps120
  go_name_bytes_deep 40 PN hPN
  clear hPN
  go_name_bytes_deep 30 DG hDG
  have eDG : DG = Lib.digits36 := by rw [← hDG]; decide +kernel
  subst eDG
  clear hDG
  go_wp2_with (first | (go_at_call 133; refine (pow2 _).mono ?_; rintro e w' ⟨rfl, rfl⟩) | (go_at_call 134; refine (tz _ hc2).mono ?_; rintro e w' ⟨rfl, rfl⟩))
  generalize w.alloc (.cells Tryd.zeroCells166 166) = W0 at *
  go_loopw [1, 13] (fun u i wr => ∃ (m q : Nat) (T : List UInt8), u = .int .u64 (m : Int) ∧ i = .int .i64 ((q : Int) + 1) ∧ m < 18446744073709551616 ∧ q + T.length = 64 ∧ Hid (hexL n = hexL m ++ T) ∧ Arr w.heap.size T wr ∧ Below w.heap.size w wr) (fun u _ _ => (intOf u).toNat)
  case atStart => exact ⟨n, 64, [], rfl, rfl, hn, rfl, hide (by simp), hA0, hB0⟩
  case round =>
    obtain ⟨m, q, T, rfl, rfl, hm, hq, HT, hA, hB⟩ := hrel
    have hT : T.length ≤ 15 := by
      have h1 := congrArg List.length HT.out
      have h2 := (hexL_len16 hm).1
      rw [List.length_append] at h1
      omega
    have hf := hA.frozen q
    obtain ⟨z, hz⟩ := hA.cell q (by omega)
    have hqI : (q : Int) ≤ 64 := by omega
    by_cases h16 : m < 16
    · have hlt : ¬ (16 : Int) ≤ (m : Int) := by omega
      have hX := fun w => dig_run 9 Tryd.underlying9 m h16 w
      have e := HT.out
      rw [hexL_small h16] at e
      have HE := hide e
      clear e HT
      have hA2 := hA.put q hq (UInt8.ofNat (hexD m))
      have hB2 := hB.setCell (p := ⟨w.heap.size, q, none⟩) (Nat.le_refl _) (.int .u8 ((UInt8.ofNat (hexD m)).toNat : Int))
      generalize UInt8.ofNat (hexD m) = c at *
      have hal : Tryd.prog.arrayLen 166 = 65 := by kernel_rfl
      have hsl : ∀ W, (Instr.sliceAt 166 (.pointer (some ⟨w.heap.size, 0, none⟩)) (some (.int .i64 (q : Int))) none none).run Tryd.prog W = .ok (.slice (some ⟨w.heap.size, q, none⟩) (T.length + 1) (65 - q)) W := fun W => by
        rw [run_sliceAt_array_l W 166 ⟨w.heap.size, 0, none⟩ (by kernel_rfl) .i64 (q : Int) (by omega) (by rw [hal]; omega)]
        go_simp
        omega
      generalize hW1 : wr.setCell ⟨w.heap.size, q, none⟩ (.int .u8 (c.toNat : Int)) = W1 at *
      have hcv : (convert 75 9 (.slice (some ⟨w.heap.size, q, none⟩) (T.length + 1) (65 - q))).run Tryd.prog W1 = .ok (.string ⟨(c :: T).toArray⟩) W1 := by
        have h := run_convert_bytes_back (P := Tryd.prog) W1 75 9 5 ⟨w.heap.size, q, none⟩ (65 - q) (c :: T) Tryd.underlying75 Tryd.underlying5 Tryd.underlying9 (fun j hj => by
          rw [Lib.add_plain]
          have := hA2.tail j hj
          rw [show 65 - (c :: T).length = q by simp; omega] at this
          exact this)
        rw [List.length_cons] at h
        exact h
      go_wp2
      exact bodyPost_ret (v := .tuple #[.slice none 0 0, .string ⟨(c :: T).toArray⟩]) (by simp [results, Tryd.results120, go_sem]) rfl ⟨by rw [HE.out]; rfl, hB2⟩
    · have hge : (16 : Int) ≤ (m : Int) := by omega
      have hX : ∀ w, (Instr.index 9 (.string Lib.digits36) (.int .u64 ((m : Int) % 16))).run Tryd.prog w = .ok (.int .u8 ((UInt8.ofNat (hexD (m % 16))).toNat : Int)) w := fun w => by
        have := dig_run 9 Tryd.underlying9 (m % 16) (by omega) w
        rw [show ((m % 16 : Nat) : Int) = (m : Int) % 16 by omega] at this
        exact this
      have hand := and15 m hm
      have e := HT.out
      rw [hexL_big h16, List.append_assoc] at e
      have HE := hide e
      clear e HT
      have hA2 := hA.put q hq (UInt8.ofNat (hexD (m % 16)))
      have hB2 := hB.setCell (p := ⟨w.heap.size, q, none⟩) (Nat.le_refl _) (.int .u8 ((UInt8.ofNat (hexD (m % 16))).toNat : Int))
      generalize UInt8.ofNat (hexD (m % 16)) = c at *
      go_wp2_with (simp only [hand])
      go_roundw
      case rel =>
        exact ⟨m / 16, q - 1, c :: T, by go_num, by congr 1; omega, by omega, by simp; omega, by rw [HE.out]; rfl, hA2, hB2⟩
      case measure => simp [intOf]; omega

set_option maxHeartbeats 400000 in
theorem ifmtUint_16 (n : Nat) (hn : n < 18446744073709551616) (w : World) (hcell : w.cell? ⟨5, 15, none⟩ = some (.int .u8 4)) (h5 : 5 < w.heap.size) :
    Calls Tryd.prog 99 #[.int .u64 (n : Int), .int .i64 16] w fun e w' => e = .returned (.string ⟨(hexL n).toArray⟩) ∧ Below w.heap.size w w' := by
  have C := formatBits_16 n hn w hcell h5
  go_enter Tryd.func99, Tryd.ntmps99
  go_wp2_with fail
  refine C.mono ?_; rintro e w' ⟨rfl, hb⟩
  go_wp2
  go_ret
  exact ⟨rfl, hb⟩
set_option maxHeartbeats 400000 in
/-- what strconv.FormatUint answers at base 16 -/
theorem fmtUint_16 (n : Nat) (hn : n < 18446744073709551616) (w : World) (hcell : w.cell? ⟨5, 15, none⟩ = some (.int .u8 4)) (h5 : 5 < w.heap.size) :
    Calls Tryd.prog 65 #[.int .u64 (n : Int), .int .i64 16] w fun e w' => e = .returned (.string ⟨(hexL n).toArray⟩) ∧ Below w.heap.size w w' := by
  have C := ifmtUint_16 n hn w hcell h5
  go_enter Tryd.func65, Tryd.ntmps65
  go_wp2_with fail
  refine C.mono ?_; rintro e w' ⟨rfl, hb⟩
  go_wp2
  go_ret
  exact ⟨rfl, hb⟩
set_option maxHeartbeats 400000 in
theorem ifmtInt_16 (n : Nat) (hn : n < 2147483648) (w : World) (hcell : w.cell? ⟨5, 15, none⟩ = some (.int .u8 4)) (h5 : 5 < w.heap.size) :
    Calls Tryd.prog 114 #[.int .i64 (n : Int), .int .i64 16] w fun e w' => e = .returned (.string ⟨(hexL n).toArray⟩) ∧ Below w.heap.size w w' := by
  have C := formatBits_16 n (by omega) w hcell h5
  have hnn : ¬ (n : Int) < 0 := by omega
  have d0 : decide ((n : Int) < 0) = false := by simp
  go_enter Tryd.func114, Tryd.ntmps114
  go_wp2_with fail
  refine C.mono ?_; rintro e w' ⟨rfl, hb⟩
  go_wp2
  go_ret
  exact ⟨rfl, hb⟩
set_option maxHeartbeats 400000 in
/-- what strconv.FormatInt answers at base 16, of a rune -/
theorem fmtInt_16 (n : Nat) (hn : n < 2147483648) (w : World) (hcell : w.cell? ⟨5, 15, none⟩ = some (.int .u8 4)) (h5 : 5 < w.heap.size) :
    Calls Tryd.prog 94 #[.int .i64 (n : Int), .int .i64 16] w fun e w' => e = .returned (.string ⟨(hexL n).toArray⟩) ∧ Below w.heap.size w w' := by
  have C := ifmtInt_16 n hn w hcell h5
  go_enter Tryd.func94, Tryd.ntmps94
  go_wp2_with fail
  refine C.mono ?_; rintro e w' ⟨rfl, hb⟩
  go_wp2
  go_ret
  exact ⟨rfl, hb⟩
end Go.Proofs.YtckjededijgjgaaDoor.Hx
