import Derived.Test.YtcbonbeogdgogaaLiB
import Derived.Laws.IdiomStrings
namespace Go.Proofs.Ytcbonbeogdgogaa.Li
open Go.RowKit
set_option linter.unusedVariables false
/-- they are bytes -/
def Byt (ys : List Int) : Prop := ∀ y ∈ ys, 0 ≤ y ∧ y ≤ 255
/-- as a string -/
def bstr (ys : List Int) : ByteArray := ⟨(ys.map fun y => UInt8.ofNat y.toNat).toArray⟩
theorem u8_back {y : Int} (h : 0 ≤ y ∧ y ≤ 255) : ((UInt8.ofNat y.toNat).toNat : Int) = y := by
  rw [UInt8.toNat_ofNat']
  have : y.toNat % 2 ^ 8 = y.toNat := Nat.mod_eq_of_lt (by omega)
  rw [this]; omega
theorem bstr_back {ys : List Int} (h : Byt ys) : (bstr ys).data.toList.map (fun b => (b.toNat : Int)) = ys := by
  simp only [bstr, List.map_map]
  refine (List.map_congr_left (g := id) fun y hy => ?_).trans (List.map_id ys)
  simpa using u8_back (h y hy)
theorem bstr_inj {xs ys : List Int} (hx : Byt xs) (hy : Byt ys) (h : bstr xs = bstr ys) : xs = ys := by
  rw [← bstr_back hx, ← bstr_back hy, h]
/-- string(b) -/
theorem conv_rd {w : World} {u : Value} {ys : List Int} (h : Rd w u ys) (hb : Byt ys) : (convert 25 9 u).run Try.prog w = .ok (.string (bstr ys)) w := by
  rcases h with ⟨rfl, rfl⟩ | ⟨a, cap, rfl, hc⟩
  · kernel_rfl
  · have := run_convert_bytes_back (P := Try.prog) w 25 9 5 a cap (ys.map fun y => UInt8.ofNat y.toNat) Try.underlying25 Try.underlying5 Try.underlying9 (fun j hj => by
      have hj' : j < ys.length := by simpa using hj
      rw [List.getElem_map, u8_back (hb _ (List.getElem_mem hj'))]
      exact hc j _ (by simp [cs, hj']))
    simpa [bstr] using this
set_option maxHeartbeats 400000 in
theorem equal_any (w : World) (u v : Value) (X Y : List Int) (hu : Rd w u X) (hv : Rd w v Y) (bx : Byt X) (bY : Byt Y) : Calls Try.prog 85 #[u, v] w fun e w' => e = .returned (.bool (decide (X = Y))) ∧ w' = w := by
  have c1 := conv_rd hu bx
  have c2 := conv_rd hv bY
  obtain ⟨a1, n1, rfl⟩ := hu.slice
  obtain ⟨a2, n2, rfl⟩ := hv.slice
  have HD : Hid (((bstr X).toList == (bstr Y).toList) = decide (X = Y)) := by
    show ((bstr X).toList == (bstr Y).toList) = decide (X = Y)
    rw [ByteArray.toList_eq, ByteArray.toList_eq]
    by_cases e : X = Y
    · subst e; simp
    · rw [decide_eq_false e]
      exact beq_eq_false_iff_ne.2 (fun h => e (by rw [← bstr_back bx, ← bstr_back bY, h]))
  clear hu hv bx bY
  generalize bstr X = sx at *
  generalize bstr Y = sy at *
  go_enter Try.func85, Try.ntmps85
  go_wp2
  go_ret
  rw [← HD.out]
  exact ⟨rfl, rfl⟩
theorem Rd.cell {w : World} {u : Value} {ys : List Int} (h : Rd w u ys) {i : Nat} {x : Int} (hx : ys[i]? = some x) : ∃ a cap, u = .slice (some a) ys.length cap ∧ w.cell? (a.add i) = some (.int .u8 x) := by
  rcases h with ⟨rfl, rfl⟩ | ⟨a, cap, rfl, hc⟩
  · simp at hx
  · exact ⟨a, cap, rfl, hc i _ (by simp [cs, hx])⟩
set_option maxRecDepth 100000 in
set_option maxHeartbeats 1000000 in
theorem same12 (w : World) (u v : Value) (X Y : List Int) (hu : Rd w u X) (hv : Rd w v Y) (fx : Fit X) (fy : Fit Y) : Calls Try.prog 12 #[u, v] w fun e w' => e = .returned (.bool (decide (X = Y))) ∧ Kp Nu w w' := by
  obtain ⟨a1, n1, rfl⟩ := hu.slice
  obtain ⟨a2, n2, rfl⟩ := hv.slice
  by_cases hl : X.length = Y.length
  · have HU := hide (And.intro hu hv)
    have HL := hide hl
    have hN : (X.length : Int) ≤ 140737488351232 := by unfold Fit at fx; omega
    obtain ⟨N, eN⟩ : ∃ N, X.length = N := ⟨_, rfl⟩
    have HN := hide eN
    rw [← hl]
    rw [eN] at hN ⊢
    have hnn : ((N : Int) != (N : Int)) = false := by simp
    clear hu hv hl fx fy eN
    go_enter Try.func12, Try.ntmps12
    go_wp2
    go_loopw [5] (fun iv wr => ∃ i : Nat, iv = .int .i64 (i : Int) ∧ i ≤ N ∧ Hid (Kp Nu w wr) ∧ Hid (∀ j, j < i → X[j]? = Y[j]?)) (fun iv _ => N - (intOf iv).toNat)
    case atStart => exact ⟨0, rfl, Nat.zero_le _, hide (Kp.refl _ _), hide (fun j hj => by omega)⟩
    case round =>
      obtain ⟨i, rfl, hi, hk, hI⟩ := hrel
      have hi0 : (0 : Int) ≤ (i : Int) := by omega
      by_cases hlt : i < N
      · have hltI : (i : Int) < (N : Int) := by omega
        have hx : ∃ x, X[i]? = some x := ⟨_, List.getElem?_eq_getElem (by rw [HN.out]; exact hlt)⟩
        have hy : ∃ y, Y[i]? = some y := ⟨_, List.getElem?_eq_getElem (by rw [← HL.out, HN.out]; exact hlt)⟩
        obtain ⟨x, hx⟩ := hx
        obtain ⟨y, hy⟩ := hy
        obtain ⟨b1, m1, e1, k1⟩ := ((HU.out.1).nu hk.out).cell hx
        obtain ⟨b2, m2, e2, k2⟩ := ((HU.out.2).nu hk.out).cell hy
        simp only [Value.slice.injEq] at e1 e2
        obtain ⟨rfl, _, rfl⟩ := e1
        obtain ⟨rfl, _, rfl⟩ := e2
        have HXY := hide (And.intro hx hy)
        have eti : (i : Int).toNat = i := by omega
        clear hx hy
        by_cases exy : x = y
        · subst exy
          have hne : (x != x) = false := by simp
          have HE := hide HXY.out
          clear HXY
          go_wp2_with fail
          go_quiet (fail)
          go_wp2
          exact ⟨⟨i + 1, by go_num, by omega, hide (hk.out.andNu (kp_dn _ _)), hide (fun j hj => by
            by_cases e : j = i
            · subst e; rw [HE.out.1, HE.out.2]
            · exact hI.out j (by omega))⟩, by simp [intOf]; omega⟩
        · have hne : (x != y) = true := by simpa using exy
          have HE := hide (And.intro exy HXY.out)
          clear HXY exy
          go_wp2_with fail
          go_quiet (fail)
          go_wp2
          go_ret
          refine ⟨?_, hk.out.andNu (kp_dn _ _)⟩
          have : ¬ X = Y := fun e => HE.out.1 (by have h1 := HE.out.2.1; rw [e, HE.out.2.2] at h1; exact (Option.some.inj h1).symm)
          simp [this]
      · have hge : ¬ (i : Int) < (N : Int) := by omega
        have HE : Hid (X = Y) := hide (List.ext_getElem? (fun j => by
          by_cases hj : j < i
          · exact hI.out j hj
          · rw [List.getElem?_eq_none (by rw [HN.out]; omega), List.getElem?_eq_none (by rw [← HL.out, HN.out]; omega)]))
        go_wp2
        go_ret
        exact ⟨by simp [HE.out], hk.out⟩
  · have hne : ¬ X = Y := fun e => hl (by rw [e])
    have hnI : ((X.length : Int) != (Y.length : Int)) = true := by simp; omega
    have hd : decide (X = Y) = false := by simpa using hne
    rw [hd]
    clear hu hv hl hne hd fx fy
    generalize X.length = N at *
    generalize Y.length = M at *
    go_enter Try.func12, Try.ntmps12
    go_wp2
    go_ret
    exact ⟨rfl, Kp.refl _ _⟩
set_option maxRecDepth 100000 in
set_option maxHeartbeats 1000000 in
theorem same52 (w : World) (u v : Value) (X Y : List Int) (hu : Rd w u X) (hv : Rd w v Y) (fx : Fit X) (fy : Fit Y) : Calls Try.prog 52 #[u, v] w fun e w' => e = .returned (.bool (decide (X = Y))) ∧ Kp Nu w w' := by
  obtain ⟨a1, n1, rfl⟩ := hu.slice
  obtain ⟨a2, n2, rfl⟩ := hv.slice
  by_cases hl : X.length = Y.length
  · have HU := hide (And.intro hu hv)
    have HL := hide hl
    have hN : (X.length : Int) ≤ 140737488351232 := by unfold Fit at fx; omega
    obtain ⟨N, eN⟩ : ∃ N, X.length = N := ⟨_, rfl⟩
    have HN := hide eN
    rw [← hl]
    rw [eN] at hN ⊢
    have hnn : ((N : Int) != (N : Int)) = false := by simp
    clear hu hv hl fx fy eN
    go_enter Try.func52, Try.ntmps52
    go_wp2
    go_loopw [5] (fun iv wr => ∃ i : Nat, iv = .int .i64 (i : Int) ∧ i ≤ N ∧ Hid (Kp Nu w wr) ∧ Hid (∀ j, j < i → X[j]? = Y[j]?)) (fun iv _ => N - (intOf iv).toNat)
    case atStart => exact ⟨0, rfl, Nat.zero_le _, hide (Kp.refl _ _), hide (fun j hj => by omega)⟩
    case round =>
      obtain ⟨i, rfl, hi, hk, hI⟩ := hrel
      have hi0 : (0 : Int) ≤ (i : Int) := by omega
      by_cases hlt : i < N
      · have hltI : (i : Int) < (N : Int) := by omega
        have hx : ∃ x, X[i]? = some x := ⟨_, List.getElem?_eq_getElem (by rw [HN.out]; exact hlt)⟩
        have hy : ∃ y, Y[i]? = some y := ⟨_, List.getElem?_eq_getElem (by rw [← HL.out, HN.out]; exact hlt)⟩
        obtain ⟨x, hx⟩ := hx
        obtain ⟨y, hy⟩ := hy
        obtain ⟨b1, m1, e1, k1⟩ := ((HU.out.1).nu hk.out).cell hx
        obtain ⟨b2, m2, e2, k2⟩ := ((HU.out.2).nu hk.out).cell hy
        simp only [Value.slice.injEq] at e1 e2
        obtain ⟨rfl, _, rfl⟩ := e1
        obtain ⟨rfl, _, rfl⟩ := e2
        have HXY := hide (And.intro hx hy)
        have eti : (i : Int).toNat = i := by omega
        clear hx hy
        by_cases exy : x = y
        · subst exy
          have hne : (x != x) = false := by simp
          have HE := hide HXY.out
          clear HXY
          go_wp2_with fail
          go_quiet (fail)
          go_wp2
          exact ⟨⟨i + 1, by go_num, by omega, hide (hk.out.andNu (kp_dn _ _)), hide (fun j hj => by
            by_cases e : j = i
            · subst e; rw [HE.out.1, HE.out.2]
            · exact hI.out j (by omega))⟩, by simp [intOf]; omega⟩
        · have hne : (x != y) = true := by simpa using exy
          have HE := hide (And.intro exy HXY.out)
          clear HXY exy
          go_wp2_with fail
          go_quiet (fail)
          go_wp2
          go_ret
          refine ⟨?_, hk.out.andNu (kp_dn _ _)⟩
          have : ¬ X = Y := fun e => HE.out.1 (by have h1 := HE.out.2.1; rw [e, HE.out.2.2] at h1; exact (Option.some.inj h1).symm)
          simp [this]
      · have hge : ¬ (i : Int) < (N : Int) := by omega
        have HE : Hid (X = Y) := hide (List.ext_getElem? (fun j => by
          by_cases hj : j < i
          · exact hI.out j hj
          · rw [List.getElem?_eq_none (by rw [HN.out]; omega), List.getElem?_eq_none (by rw [← HL.out, HN.out]; omega)]))
        go_wp2
        go_ret
        exact ⟨by simp [HE.out], hk.out⟩
  · have hne : ¬ X = Y := fun e => hl (by rw [e])
    have hnI : ((X.length : Int) != (Y.length : Int)) = true := by simp; omega
    have hd : decide (X = Y) = false := by simpa using hne
    rw [hd]
    clear hu hv hl hne hd fx fy
    generalize X.length = N at *
    generalize Y.length = M at *
    go_enter Try.func52, Try.ntmps52
    go_wp2
    go_ret
    exact ⟨rfl, Kp.refl _ _⟩
end Go.Proofs.Ytcbonbeogdgogaa.Li
