import Derived.Test.YtfpaagdiogdnoaaAcB
import Derived.Laws.IdiomStrings
namespace Go.Proofs.Ytfpaagdiogdnoaa.Cd
open Go.RowKit
set_option linter.unusedVariables false
/-- they are bytes -/
def Byt (ys : List Int) : Prop := ∀ y ∈ ys, 0 ≤ y ∧ y ≤ 255
/-- as a string -/
def bstr (ys : List Int) : ByteArray := ⟨(ys.map fun y => UInt8.ofNat y.toNat).toArray⟩
theorem u8_back {y : Int} (h : 0 ≤ y ∧ y ≤ 255) : ((UInt8.ofNat y.toNat).toNat : Int) = y := by
  rw [UInt8.toNat_ofNat']
  have : y.toNat % 2 ^ 8 = y.toNat := Nat.mod_eq_of_lt (by omega)
  rw [this]; omega
theorem bstr_back {ys : List Int} (h : Byt ys) : (bstr ys).data.toList.map (fun b => (b.toNat : Int)) = ys := by
  simp only [bstr, List.map_map]
  refine (List.map_congr_left (g := id) fun y hy => ?_).trans (List.map_id ys)
  simpa using u8_back (h y hy)
/-- string(b) -/
theorem conv_rd {w : World} {u : Value} {ys : List Int} (h : Rd w u ys) (hb : Byt ys) : (convert 28 9 u).run Try.prog w = .ok (.string (bstr ys)) w := by
  rcases h with ⟨rfl, rfl⟩ | ⟨a, cap, rfl, hc⟩
  · kernel_rfl
  · have := run_convert_bytes_back (P := Try.prog) w 28 9 5 a cap (ys.map fun y => UInt8.ofNat y.toNat) Try.underlying28 Try.underlying5 Try.underlying9 (fun j hj => by
      have hj' : j < ys.length := by simpa using hj
      rw [List.getElem_map, u8_back (hb _ (List.getElem_mem hj'))]
      exact hc j _ (by simp [cs, hj']))
    simpa [bstr] using this
set_option maxHeartbeats 400000 in
theorem sameBytes12 (w : World) (u v : Value) (X Y : List Int) (hu : Rd w u X) (hv : Rd w v Y) (bx : Byt X) (bY : Byt Y) : Calls Try.prog 12 #[u, v] w fun e w' => e = .returned (.bool (decide (X = Y))) ∧ Kp Nu w w' := by
  have c1 := conv_rd hu bx
  have c2 := conv_rd hv bY
  obtain ⟨a1, n1, rfl⟩ := hu.slice
  obtain ⟨a2, n2, rfl⟩ := hv.slice
  have HD : Hid (((bstr X).toList == (bstr Y).toList) = decide (X = Y)) := by
    show ((bstr X).toList == (bstr Y).toList) = decide (X = Y)
    rw [ByteArray.toList_eq, ByteArray.toList_eq]
    by_cases e : X = Y
    · subst e; simp
    · rw [decide_eq_false e]
      exact beq_eq_false_iff_ne.2 (fun h => e (by rw [← bstr_back bx, ← bstr_back bY, h]))
  clear hu hv bx bY
  generalize bstr X = sx at *
  generalize bstr Y = sy at *
  go_enter Try.func12, Try.ntmps12
  go_wp2
  go_ret
  rw [← HD.out]
  exact ⟨rfl, Kp.refl _ _⟩
theorem own_ge {w : World} {B e size n : Nat} {v : Value} {xs : List Value} (h : w.ownsRow B e size v n xs) {g : Nat} (hg : v.ownBlock = some g) : B ≤ g ∧ g < w.heap.size := h.lt g hg
set_option maxRecDepth 100000 in
set_option maxHeartbeats 1000000 in
/-- the law's copy of bytes -/
theorem bytes8 (w : World) (u : Value) (ys : List Int) (h : Rd w u ys) (hy : ys.length ≤ 1048576) : Calls Try.prog 8 #[u] w fun e w' => ∃ d, e = .returned d ∧ w'.ownsRow w.heap.size 5 1 d ys.length (cs ys) ∧ Kp Nu w w' := by
  obtain ⟨i0, hi, hz0, hz1, hz2⟩ := info_parts info5
  obtain ⟨ad, cap, hv⟩ := h.slice
  obtain ⟨N, eN⟩ : ∃ N, ys.length = N := ⟨_, rfl⟩
  rw [eN] at hv hy
  subst hv
  have HU := hide (And.intro h eN)
  rw [eN]
  clear h eN
  have hNI : (N : Int) ≤ 1048576 := by omega
  go_enter Try.func8, Try.ntmps8
  go_wp2
  go_loopw [3, 4] (fun cv iv wr => ∃ (i : Nat) (ca : Option Addr) (cc : Nat), iv = .int .i64 (i : Int) ∧ cv = .slice ca i cc ∧ i ≤ N ∧ wr.ownsRow w.heap.size 5 1 (.slice ca i cc) i (cs (ys.take i)) ∧ Hid (Kp Nu w wr)) (fun _ iv _ => N - (intOf iv).toNat)
  case atStart => exact ⟨0, none, 0, rfl, rfl, Nat.zero_le _, World.ownsRow_nil _ _ _ _, Kp.refl _ _⟩
  case round =>
    obtain ⟨i, ca, cc, rfl, rfl, hiN, hrow, hK⟩ := hrel
    have hi0' : (0 : Int) ≤ (i : Int) := by omega
    by_cases hlt : i < N
    · have hltI : (i : Int) < (N : Int) := by omega
      obtain ⟨x, hx⟩ : ∃ x, ys[i]? = some x := ⟨_, List.getElem?_eq_getElem (by rw [HU.out.2]; exact hlt)⟩
      obtain ⟨b', rfl, hc⟩ := (HU.out.1.nu hK.out).at_ hx
      have eti : (i : Int).toNat = i := by omega
      have HX := hide (take_more hx)
      have hsz : w.heap.size ≤ wr.heap.size := hK.out.size
      clear hx
      go_wp2_with (at_builtin; refine wpList_append_own_at _ rfl _ _ 28 rfl w.heap.size 5 i0 _ 1 1 Try.underlying28 hi hz0 hz1 hz2 rfl (by decide) _ _ _ rfl (hrow.alloc _) ⟨wr.heap.size, 0, none⟩ 1 1 [.int .u8 x] rfl rfl (cell_one_new _ _ _) (by simp [Value.oneCell']) ?q1 ?q2 ?q3 ?_; rotate_left 3; intro v' w1 hown' hgrow _ hat; obtain ⟨g', cap', rfl⟩ := ownsRow_succ hown')
      · refine ⟨⟨i + 1, _, _, by go_num, rfl, by omega, ?_, ?_⟩, by simp [intOf]; omega⟩
        · rw [HX.out]
          simpa [cs] using hown'
        · refine Kp.trans (hK.out.andNu (Kp.alloc wr _ Nu)) (Kp.of_grown hgrow) (fun j hj e => ?_)
          have := (own_ge hrow e.symm).1
          omega
      · unfold maxLen; omega
      · omega
      · rw [World.size_alloc]; omega
    · have hge : ¬ (i : Int) < (N : Int) := by omega
      obtain rfl : i = N := by omega
      rw [List.take_of_length_le (by have := HU.out.2; omega)] at hrow
      go_wp2
      go_ret
      exact ⟨_, rfl, hrow, hK.out⟩
end Go.Proofs.Ytfpaagdiogdnoaa.Cd
