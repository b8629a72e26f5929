import Derived.Test.YtckjededijgjgaaDoorWdH
namespace Go.Proofs.YtckjededijgjgaaDoor.Wd
open Go.RowKit
open Go.Proofs.YtckjededijgjgaaDoor.Pc (P4 pieces)
open Go.Proofs.YtckjededijgjgaaDoor.Rp (cellsR cellsR4 refPieces_any)
open Go.Proofs.YtckjededijgjgaaDoor.Rn (row_at bcs bcs_append conv_row info5)
open Go.Proofs.YtckjededijgjgaaDoor.Enc (hide)
set_option linter.unusedVariables false

set_option maxRecDepth 100000 in
set_option maxHeartbeats 1000000 in
/-- the document's Width -/
theorem refWidth_of (CO : Cols) (s : ByteArray) (hs : s.size ≤ 1048576) (w : World) :
    Calls Tryd.prog 44 #[.string s] w fun e W' => e = .returned (.int .i64 (wS (pieces s))) ∧ Below w.heap.size w W' := by
  have RP := refPieces_any s hs w
  have hPL := pieces_len s
  generalize pieces s = PS at *
  go_enter Tryd.func44, Tryd.ntmps44
  go_wp2_with fail
  refine RP.mono ?_; rintro e w1 ⟨v, rfl, hrow, hb1⟩
  have HC : Hid (∀ k (hk : k < PS.length) wr, Below w1.heap.size w1 wr → ∃ g cap, v = .slice (some ⟨g, 0, none⟩) PS.length cap ∧ wr.cell? ⟨g, k * 4, none⟩ = some (.int .i64 PS[k].1) ∧ wr.cell? ⟨g, k * 4 + 1, none⟩ = some (.int .i64 PS[k].2.1) ∧ wr.cell? ⟨g, k * 4 + 2, none⟩ = some (.int .i64 PS[k].2.2.1) ∧ wr.cell? ⟨g, k * 4 + 3, none⟩ = some (.bool PS[k].2.2.2)) := by
    intro k hk wr hB
    obtain ⟨g, cap, hv, hg, c0, c1, c2, c3⟩ := row_at hrow hk
    exact ⟨g, cap, hv, (hB.cell (p := ⟨g, k * 4, none⟩) hg).trans c0, (hB.cell (p := ⟨g, k * 4 + 1, none⟩) hg).trans c1, (hB.cell (p := ⟨g, k * 4 + 2, none⟩) hg).trans c2, (hB.cell (p := ⟨g, k * 4 + 3, none⟩) hg).trans c3⟩
  obtain ⟨ad, cap, hv⟩ : ∃ ad cap, v = .slice ad PS.length cap := by
    rcases hrow.2 with ⟨rfl, h0⟩ | ⟨g, cap, cur, rfl, _⟩
    · exact ⟨none, 0, by rw [h0]⟩
    · exact ⟨_, _, rfl⟩
  subst hv
  obtain ⟨N, hN⟩ : ∃ N, PS.length = N := ⟨_, rfl⟩
  have HN := hide hN
  rw [hN] at hPL ⊢
  have hNI : (N : Int) ≤ 1048576 := by omega
  clear hN hrow RP hPL hs
  go_wp2_with fail
  go_loopw [4, 5] (fun c i wr => ∃ (k : Nat), i = .int .i64 (k : Int) ∧ k ≤ N ∧ c = .int .i64 (wS (PS.take k)) ∧ Below w1.heap.size w1 wr) (fun _ i _ => N - (intOf i).toNat)
  case atStart => exact ⟨0, rfl, by omega, rfl, Below.refl _ _⟩
  case round =>
    obtain ⟨k, rfl, hkN, rfl, hB⟩ := hrel
    by_cases hlt : k < N
    · have hkP : k < PS.length := by rw [HN.out]; exact hlt
      obtain ⟨g, cap', hv, c0, c1, c2, c3⟩ := HC.out k hkP wr hB
      have ht := wS_take' PS hkP
      have hr1 := wS_range (PS.take k)
      have hr2 := wF_range PS[k]
      have hlen : (PS.take k).length ≤ k := by rw [List.length_take]; omega
      have C := CO PS[k].1 PS[k].2.1 PS[k].2.2.1 PS[k].2.2.2 wr
      have HT := hide ht
      simp only [Value.slice.injEq] at hv
      obtain ⟨rfl, _, rfl⟩ := hv
      generalize hx : PS[k] = x at *
      obtain ⟨r, at_, sz, br⟩ := x
      simp only at c0 c1 c2 c3 C
      generalize wF (r, at_, sz, br) = wx at *
      generalize wS (PS.take k) = wp at *
      have hltI : (k : Int) < (N : Int) := by omega
      obtain ⟨q0, q1⟩ := hr1
      obtain ⟨q2, q3⟩ := hr2
      have q4 : wp ≤ 2097152 := by omega
      clear HC ht hx q1 hlen hkP
      go_wp2_with fail
      refine C.mono ?_; rintro e w2 ⟨rfl, hb2⟩
      go_wp2
      exact ⟨⟨k + 1, by go_num, by omega, by rw [HT.out], hB.trans (hb2.mono hB.size)⟩, by simp [intOf]; omega⟩
    · have hke : k = N := by omega
      subst hke
      have ht : PS.take k = PS := List.take_of_length_le (by rw [HN.out]; exact Nat.le_refl _)
      have HT := hide ht
      have hge : ¬ (k : Int) < (k : Int) := by omega
      clear HC ht
      go_wp2
      go_ret
      rw [HT.out]
      exact ⟨rfl, hb1.trans (hB.mono hb1.size)⟩

/-- blanks -/
def bl (n : Nat) : List UInt8 := List.replicate n 32
theorem new1 (W : World) (j : Nat) (u : Value) (h : ([.int .u8 32] : List Value)[j]? = some u) : (W.alloc (.cells #[.int .u8 32] 5)).cell? ((⟨W.heap.size, 0, none⟩ : Addr).add j) = some u := by
  rw [Pc.addP, World.cell?_alloc_new, Nat.zero_add]
  simpa using h
theorem bl_snoc (n : Nat) : bl (n + 1) = bl n ++ [32] := List.replicate_succ'
theorem bl_len (n : Nat) : (bl n).length = n := by simp [bl]

set_option maxRecDepth 100000 in
set_option maxHeartbeats 1000000 in
theorem spaces_any (n : Nat) (hn : n ≤ 400) (w : World) :
    Calls Tryd.prog 82 #[.int .i64 (n : Int)] w fun e W' => e = .returned (.string ⟨(bl n).toArray⟩) ∧ Below w.heap.size w W' := by
  obtain ⟨i0, hi, hz0, hz1, hz2⟩ := info_parts info5
  have hnI : (n : Int) ≤ 400 := by omega
  go_enter Tryd.func82, Tryd.ntmps82
  go_wp2_with fail
  go_loopw [3, 4] (fun b i wr => ∃ k : Nat, i = .int .i64 (k : Int) ∧ k ≤ n ∧ wr.ownsRow w.heap.size 5 1 b k (bcs (bl k)) ∧ Below w.heap.size w wr) (fun _ i _ => n - (intOf i).toNat)
  case atStart => exact ⟨0, rfl, by omega, World.ownsRow_nil _ _ _ _, Below.refl _ _⟩
  case round =>
    obtain ⟨k, rfl, hk, hrow, hB⟩ := hrel
    by_cases hlt : k < n
    · have hltI : (k : Int) < (n : Int) := by omega
      go_wp2_with (at_builtin; refine wpList_append_own _ rfl _ _ 75 rfl w.heap.size 5 i0 _ 1 1 Tryd.underlying75 hi hz0 hz1 hz2 rfl (by decide) _ _ _ rfl (hrow.alloc _) ⟨wr.heap.size, 0, none⟩ 1 1 [.int .u8 32] rfl rfl (new1 _) (by simp [Value.oneCell']) ?q1 ?q2 ?q3 ?_; rotate_left 3; intro v' w1 hown' hgrow _)
      · have hb2 : Below w.heap.size w w1 := (hB.alloc hB.size _).grown hgrow (by have := hB.size; simp; omega) (fun j ej => by
          rcases hrow.2 with ⟨rfl, _⟩ | ⟨g, cap, cur, rfl, hgb, _⟩
          · cases ej
          · cases ej; exact hgb)
        exact ⟨⟨k + 1, by go_num, by omega, by rw [bl_snoc, bcs_append]; exact hown', hb2⟩, by simp [intOf]; omega⟩
      · unfold maxLen; omega
      · omega
      · have := hB.size; simp; omega
    · have hke : k = n := by omega
      subst hke
      have kc := conv_row (acc := bl k) (by rw [bl_len]; exact hrow)
      have hge : ¬ (k : Int) < (k : Int) := by omega
      go_wp2
      go_ret
      exact ⟨rfl, hB⟩

/-- what Pad makes -/
def padA (m side : Int) : Int := if side = 1 then m else if side = 2 then m / 2 else 0
def padT (s : ByteArray) (m side : Int) : ByteArray := ⟨(bl (padA m side).toNat).toArray⟩ ++ s ++ ⟨(bl (m - padA m side).toNat).toArray⟩
def padM (s : ByteArray) (cols : Int) : Int := if cols - wS (pieces s) ≤ 0 then 0 else cols - wS (pieces s)
theorem padT_zero (s : ByteArray) (side : Int) : padT s 0 side = s := by
  have h : padA 0 side = 0 := by unfold padA; split; rfl; split <;> rfl
  unfold padT
  rw [h]
  show (⟨#[]⟩ : ByteArray) ++ s ++ ⟨#[]⟩ = s
  have e : (⟨#[]⟩ : ByteArray) = ByteArray.empty := rfl
  rw [e]
  simp

set_option maxRecDepth 100000 in
set_option maxHeartbeats 1000000 in
/-- the document's Pad, where it may be -/
theorem refPad_of (CO : Cols) (s : ByteArray) (hs : s.size ≤ 1048576) (cols side : Int) (h0 : 0 ≤ cols) (h1 : cols ≤ 400) (s0 : 0 ≤ side) (s1 : side ≤ 2) (w : World) :
    Calls Tryd.prog 42 #[.string s, .int .i64 cols, .int .i64 side] w fun e W' => e = .returned (.tuple #[.string (padT s (padM s cols) side), .int .i64 0]) ∧ Below w.heap.size w W' := by
  have W := refWidth_of CO s hs w
  have hr := (wS_range (pieces s)).1
  have hr2 := (wS_range (pieces s)).2
  have hpl := pieces_len s
  by_cases hm : cols - wS (pieces s) ≤ 0
  · rw [show padM s cols = 0 by unfold padM; rw [if_pos hm], padT_zero]
    generalize wS (pieces s) = wp at *
    have hwb : wp ≤ 2097152 := by omega
    go_enter Tryd.func42, Tryd.ntmps42
    go_wp2_with fail
    refine W.mono ?_; rintro e w1 ⟨rfl, hb1⟩
    go_wp2
    exact bodyPost_ret (v := .tuple #[.string s, .int .i64 0]) (by simp [results, Tryd.results42, go_sem]) rfl ⟨rfl, hb1⟩
  · rw [show padM s cols = cols - wS (pieces s) by unfold padM; rw [if_neg hm]]
    generalize wS (pieces s) = wp at *
    have hwb : wp ≤ 2097152 := by omega
    obtain ⟨m, hmm⟩ : ∃ m : Nat, cols - wp = (m : Int) := ⟨(cols - wp).toNat, by omega⟩
    have hm400 : m ≤ 400 := by omega
    rw [hmm]
    rw [hmm] at hm
    have hcase : side = 0 ∨ side = 1 ∨ side = 2 := by omega
    rcases hcase with rfl | rfl | rfl
    · have S1 : ∀ w, Calls Tryd.prog 82 #[.int .i64 0] w fun e W' => e = .returned (.string ⟨(bl 0).toArray⟩) ∧ Below w.heap.size w W' := fun w => by
        have := spaces_any 0 (by omega) w
        simpa using this
      have S2 : ∀ w, Calls Tryd.prog 82 #[.int .i64 (m : Int)] w fun e W' => e = .returned (.string ⟨(bl m).toArray⟩) ∧ Below w.heap.size w W' := fun w => by
        have := spaces_any m (by omega) w
        exact this
      have ht : padT s (m : Int) 0 = ⟨(bl 0).toArray⟩ ++ s ++ ⟨(bl m).toArray⟩ := by
        unfold padT
        rw [show (padA (m : Int) 0).toNat = 0 by simp [padA], show ((m : Int) - padA (m : Int) 0).toNat = m by simp [padA]]
      rw [ht]
      have z1 : (⟨(bl 0).toArray⟩ : ByteArray).size ≤ 400 := by show (bl 0).toArray.size ≤ 400; simp [bl]
      have z2 : (⟨(bl m).toArray⟩ : ByteArray).size ≤ 400 := by show (bl m).toArray.size ≤ 400; simp [bl]; omega
      clear ht
      generalize (⟨(bl 0).toArray⟩ : ByteArray) = A1 at *
      generalize (⟨(bl m).toArray⟩ : ByteArray) = A2 at *
      clear hr2 hpl hr
      go_enter Tryd.func42, Tryd.ntmps42
      go_wp2_with fail
      refine W.mono ?_; rintro e w1 ⟨rfl, hb1⟩
      go_wp2_with fail
      refine (S1 _).mono ?_; rintro e w2 ⟨rfl, hb2⟩
      go_wp2_with fail
      refine (S2 _).mono ?_; rintro e w3 ⟨rfl, hb3⟩
      go_wp2
      exact bodyPost_ret (v := .tuple #[.string (A1 ++ s ++ A2), .int .i64 0]) (by simp [results, Tryd.results42, go_sem]) rfl ⟨rfl, hb1.trans ((hb2.trans (hb3.mono hb2.size)).mono hb1.size)⟩
    · have S1 : ∀ w, Calls Tryd.prog 82 #[.int .i64 (m : Int)] w fun e W' => e = .returned (.string ⟨(bl m).toArray⟩) ∧ Below w.heap.size w W' := fun w => by
        have := spaces_any m (by omega) w
        exact this
      have S2 : ∀ w, Calls Tryd.prog 82 #[.int .i64 0] w fun e W' => e = .returned (.string ⟨(bl 0).toArray⟩) ∧ Below w.heap.size w W' := fun w => by
        have := spaces_any 0 (by omega) w
        simpa using this
      have ht : padT s (m : Int) 1 = ⟨(bl m).toArray⟩ ++ s ++ ⟨(bl 0).toArray⟩ := by
        unfold padT
        rw [show (padA (m : Int) 1).toNat = m by simp [padA], show ((m : Int) - padA (m : Int) 1).toNat = 0 by simp [padA]]
      rw [ht]
      have z1 : (⟨(bl m).toArray⟩ : ByteArray).size ≤ 400 := by show (bl m).toArray.size ≤ 400; simp [bl]; omega
      have z2 : (⟨(bl 0).toArray⟩ : ByteArray).size ≤ 400 := by show (bl 0).toArray.size ≤ 400; simp [bl]
      clear ht
      generalize (⟨(bl m).toArray⟩ : ByteArray) = A1 at *
      generalize (⟨(bl 0).toArray⟩ : ByteArray) = A2 at *
      clear hr2 hpl hr
      go_enter Tryd.func42, Tryd.ntmps42
      go_wp2_with fail
      refine W.mono ?_; rintro e w1 ⟨rfl, hb1⟩
      go_wp2_with fail
      refine (S1 _).mono ?_; rintro e w2 ⟨rfl, hb2⟩
      go_wp2_with fail
      refine (S2 _).mono ?_; rintro e w3 ⟨rfl, hb3⟩
      go_wp2
      exact bodyPost_ret (v := .tuple #[.string (A1 ++ s ++ A2), .int .i64 0]) (by simp [results, Tryd.results42, go_sem]) rfl ⟨rfl, hb1.trans ((hb2.trans (hb3.mono hb2.size)).mono hb1.size)⟩
    · have S1 : ∀ w, Calls Tryd.prog 82 #[.int .i64 ((m : Int) / 2)] w fun e W' => e = .returned (.string ⟨(bl (m / 2)).toArray⟩) ∧ Below w.heap.size w W' := fun w => by
        have := spaces_any (m / 2) (by omega) w
        rw [show (((m / 2 : Nat)) : Int) = (m : Int) / 2 by omega] at this; exact this
      have S2 : ∀ w, Calls Tryd.prog 82 #[.int .i64 ((m : Int) - (m : Int) / 2)] w fun e W' => e = .returned (.string ⟨(bl (m - m / 2)).toArray⟩) ∧ Below w.heap.size w W' := fun w => by
        have := spaces_any (m - m / 2) (by omega) w
        rw [show (((m - m / 2 : Nat)) : Int) = (m : Int) - (m : Int) / 2 by omega] at this; exact this
      have ht : padT s (m : Int) 2 = ⟨(bl (m / 2)).toArray⟩ ++ s ++ ⟨(bl (m - m / 2)).toArray⟩ := by
        unfold padT
        rw [show (padA (m : Int) 2).toNat = (m / 2) by simp [padA]; omega, show ((m : Int) - padA (m : Int) 2).toNat = (m - m / 2) by simp [padA]; omega]
      rw [ht]
      have z1 : (⟨(bl (m / 2)).toArray⟩ : ByteArray).size ≤ 400 := by show (bl (m / 2)).toArray.size ≤ 400; simp [bl]; omega
      have z2 : (⟨(bl (m - m / 2)).toArray⟩ : ByteArray).size ≤ 400 := by show (bl (m - m / 2)).toArray.size ≤ 400; simp [bl]; omega
      clear ht
      generalize (⟨(bl (m / 2)).toArray⟩ : ByteArray) = A1 at *
      generalize (⟨(bl (m - m / 2)).toArray⟩ : ByteArray) = A2 at *
      clear hr2 hpl hr
      go_enter Tryd.func42, Tryd.ntmps42
      go_wp2_with fail
      refine W.mono ?_; rintro e w1 ⟨rfl, hb1⟩
      go_wp2_with fail
      refine (S1 _).mono ?_; rintro e w2 ⟨rfl, hb2⟩
      go_wp2_with fail
      refine (S2 _).mono ?_; rintro e w3 ⟨rfl, hb3⟩
      go_wp2
      exact bodyPost_ret (v := .tuple #[.string (A1 ++ s ++ A2), .int .i64 0]) (by simp [results, Tryd.results42, go_sem]) rfl ⟨rfl, hb1.trans ((hb2.trans (hb3.mono hb2.size)).mono hb1.size)⟩
end Go.Proofs.YtckjededijgjgaaDoor.Wd
