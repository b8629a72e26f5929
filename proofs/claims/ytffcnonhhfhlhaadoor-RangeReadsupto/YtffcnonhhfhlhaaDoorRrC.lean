import Derived.Test.YtffcnonhhfhlhaaDoorRrB
namespace Go.Proofs.YtffcnonhhfhlhaaDoor.Ws
open Go.RowKit Go.Shelf
open Num
set_option linter.unusedVariables false
/-- what follows the digits of a list -/
theorem tw_next {l : List UInt8} {s : ByteArray} {a : Nat} (hl : s.data.toList.drop a = l) (ha : a ≤ s.size) :
    a + (tw l).length ≤ s.size ∧ ((a + (tw l).length = s.size ∧ l = tw l) ∨ ∃ (h : a + (tw l).length < s.size), ∃ r, isD s[a + (tw l).length] = false ∧ l = tw l ++ s[a + (tw l).length] :: r ∧ s.data.toList.drop (a + (tw l).length + 1) = r) := by
  have hlen : l.length = s.size - a := by rw [← hl, List.length_drop]; simp
  have hsp := tw_split l
  generalize tw l = D at hsp ⊢
  rcases hsp with h | ⟨x, r, h1, h2⟩
  · have e : D.length = l.length := by rw [← h]
    exact ⟨by omega, .inl ⟨by omega, h⟩⟩
  · have e : l.length = D.length + 1 + r.length := by
      rw [h2]
      simp only [List.length_append, List.length_cons]
      omega
    have hlt : a + D.length < s.size := by omega
    have hat : s[a + D.length] = x := by
      have h3 := at_some hlt
      rw [← List.getElem?_drop, hl, h2] at h3
      simp at h3
      exact h3.symm
    refine ⟨by omega, .inr ⟨hlt, r, by rw [hat]; exact h1, by rw [hat]; exact h2, ?_⟩⟩
    rw [show a + D.length + 1 = a + (D.length + 1) by omega, ← List.drop_drop, hl, h2]
    simp
/-- the first sign, and what follows it -/
theorem no_sign {l r D : List UInt8} {x c : UInt8} (h : l = D ++ x :: r) (hx : x ≠ c) : ∀ q, l ≠ D ++ c :: q := fun q e => by
  rw [h] at e
  have := List.append_cancel_left e
  cases this
  exact hx rfl
theorem no_end {l D : List UInt8} {c : UInt8} (h : l = D) : ∀ q, l ≠ D ++ c :: q := fun q e => by
  rw [h] at e
  have := congrArg List.length e
  simp at this
theorem tw_nxt {l : List UInt8} {s : ByteArray} {a : Nat} (hl : s.data.toList.drop a = l) (ha : a ≤ s.size) :
    ∃ n, a + (tw l).length = n ∧ n ≤ s.size ∧ ((n = s.size ∧ l = tw l) ∨ ∃ (h : n < s.size), ∃ r, isD s[n] = false ∧ l = tw l ++ s[n] :: r ∧ s.data.toList.drop (n + 1) = r) := ⟨_, rfl, tw_next hl ha⟩
theorem ne_u8 {a b : UInt8} (h : a ≠ b) : ((a.toNat : Int) != (b.toNat : Int)) = true := by
  have : a.toNat ≠ b.toNat := fun e => h (UInt8.toNat_inj.1 e)
  simp only [bne_iff_ne]
  omega
theorem eq_u8 {a b : UInt8} (h : a = b) : ((a.toNat : Int) != (b.toNat : Int)) = false := by subst h; simp
set_option maxHeartbeats 4000000 in
set_option maxRecDepth 100000 in
theorem word66 (s : ByteArray) (w : World) (hs : s.size ≤ 140737488355328) :
    Calls Tryd.prog 66 #[.string s] w fun e w' => SegR s.data.toList e ∧ Rg.Kp Rg.Nu w w' := by
  have KA := Rg.Kp.alloc w (.cells #[.int .u64 0, .int .u64 0, .int .u8 0] 26) Rg.Nu
  have xA := heap_alloc_new w (.cells #[.int .u64 0, .int .u64 0, .int .u8 0] 26)
  obtain ⟨w0, ew0⟩ : ∃ w0, w.alloc (.cells #[.int .u64 0, .int .u64 0, .int .u8 0] 26) = w0 := ⟨_, rfl⟩
  rw [ew0] at KA xA
  obtain ⟨c0, c1, c2⟩ := Rg.cell3 xA
  have g0 := Rg.free3 xA 0
  have g1 := Rg.free3 xA 1
  have g2 := Rg.free3 xA 2
  have fin : ∀ {x y z : Value}, Hid (((((w0.setCell ⟨w.heap.size, 0, none⟩ x).setCell ⟨w.heap.size, 1, none⟩ y).setCell ⟨w.heap.size, 2, none⟩ z).heap[w.heap.size]? = some (.cells #[x, y, z] 26 (0, 0))) ∧ Rg.Kp Rg.Nu w (((w0.setCell ⟨w.heap.size, 0, none⟩ x).setCell ⟨w.heap.size, 1, none⟩ y).setCell ⟨w.heap.size, 2, none⟩ z)) := fun {x y z} => by
    refine hide ⟨?_, ?_⟩
    · have h1 := Rg.set3 xA 0 x
      have h2 := Rg.set3 h1 1 y
      exact Rg.set3 h2 2 z
    · exact (((KA.andSet _ _ (.inl (Nat.le_refl _))).andSet _ _ (.inl (Nat.le_refl _))).andSet _ _ (.inl (Nat.le_refl _)))
  have HZ := fin (x := .int .u64 0) (y := .int .u64 0) (z := .int .u8 0)
  have etop : (18446744073709551615 : Int).toNat = Num.top := rfl
  have e15 : (15 : Int).toNat = 15 := rfl
  have N1 : Calls Tryd.prog 83 #[.string s, .int .i64 0, .int .u64 18446744073709551615] w0 fun e w' => NumR s.data.toList Num.top 0 e ∧ w' = w0 := number83 s 0 18446744073709551615 w0 hs (Nat.zero_le _) (by omega) (by omega)
  obtain ⟨n1, eN1, TN1⟩ := tw_nxt (l := s.data.toList) (s := s) (a := 0) rfl (Nat.zero_le _)
  unfold NumR at N1
  rw [List.drop_zero, eN1] at N1
  have NN : Hid (∀ (a : Nat) (Mo : Int), a ≤ s.size → 9 ≤ Mo → Mo ≤ 18446744073709551615 → Calls Tryd.prog 83 #[.string s, .int .i64 (a : Int), .int .u64 Mo] w0 fun e w' => NumR s.data.toList Mo.toNat a e ∧ w' = w0) := hide (fun a Mo h1 h2 h3 => number83 s a Mo w0 hs h1 h2 h3)
  obtain ⟨v1, eV1⟩ : ∃ v1, dv (tw s.data.toList) = v1 := ⟨_, rfl⟩
  have HV1 := hide eV1
  rw [eV1] at N1
  clear xA KA eV1
  have HTN1 := hide TN1
  have HS := hide hs
  clear TN1 hs eN1
  go_enter Tryd.func66, Tryd.ntmps66
  go_wp2_with fail
  refine N1.mono ?_; rintro e w' ⟨hN, hw'⟩; obtain rfl := hw'.symm
  clear N1
  rcases hN with ⟨ok1, rfl⟩ | ⟨no1, rfl⟩
  rotate_left
  · have HR := hide (seg_no1 (.inl no1))
    have HF := HZ
    obtain ⟨y0, y1, y2⟩ := Rg.cell3 HF.out.1
    clear no1
    clear fin
    go_wp2
    refine bodyPost_ret (v := .tuple #[.agg #[.int .u64 0, .int .u64 0, .int .u8 0], .bool false]) (by simp [results, Tryd.results66, go_sem, y0, y1, y2]) rfl ?_
    exact ⟨.inl ⟨HR.out, rfl⟩, HF.out.2⟩
  have hO1 := hide ok1
  obtain ⟨hb1, hc1⟩ := HTN1.out
  have hbs := HS.out
  have i0 : ¬ (n1 : Int) < 0 := by omega
  have i0' : decide ((n1 : Int) < 0) = false := by simp
  rcases hc1 with ⟨hsz, hl1⟩ | ⟨hlt, r, hx1, hl1, hr1⟩
  · have HR := hide (seg_no1 (.inr (no_end hl1)))
    have HF := HZ
    obtain ⟨y0, y1, y2⟩ := Rg.cell3 HF.out.1
    have i1 : (n1 : Int) ≥ (s.size : Int) := by omega
    have i2 : decide ((n1 : Int) ≥ (s.size : Int)) = true := by simpa using i1
    clear ok1 hb1 hbs hsz hl1
    clear fin
    go_wp2
    refine bodyPost_ret (v := .tuple #[.agg #[.int .u64 0, .int .u64 0, .int .u8 0], .bool false]) (by simp [results, Tryd.results66, go_sem, y0, y1, y2]) rfl ?_
    exact ⟨.inl ⟨HR.out, rfl⟩, HF.out.2⟩
  have i1 : ¬ (n1 : Int) ≥ (s.size : Int) := by omega
  have i2 : decide ((n1 : Int) ≥ (s.size : Int)) = false := by simpa using i1
  have i3 : (n1 : Int) < (s.size : Int) := by omega
  by_cases h45 : s[n1] = 45
  rotate_left
  · have HR := hide (seg_no1 (.inr (no_sign hl1 h45)))
    have HF := HZ
    obtain ⟨y0, y1, y2⟩ := Rg.cell3 HF.out.1
    have i4 : ((s[n1].toNat : Int) != 45) = true := ne_u8 (b := 45) h45
    clear ok1 hb1 hbs hl1 h45 hr1 hx1
    clear fin
    go_wp2
    refine bodyPost_ret (v := .tuple #[.agg #[.int .u64 0, .int .u64 0, .int .u8 0], .bool false]) (by simp [results, Tryd.results66, go_sem, y0, y1, y2]) rfl ?_
    exact ⟨.inl ⟨HR.out, rfl⟩, HF.out.2⟩
  have i4 : ((s[n1].toNat : Int) != 45) = false := eq_u8 (b := 45) h45
  rw [h45] at hl1
  have HL1 := hide hl1
  have N2 := NN.out (n1 + 1) 18446744073709551615 (by omega) (by omega) (by omega)
  obtain ⟨n2, eN2, TN2⟩ := tw_nxt (l := r) (s := s) (a := n1 + 1) hr1 (by omega)
  have ea : ((n1 + 1 : Nat) : Int) = (n1 : Int) + 1 := by omega
  rw [ea, etop] at N2
  unfold NumR at N2
  rw [hr1, eN2] at N2
  obtain ⟨v2, eV2⟩ : ∃ v2, dv (tw r) = v2 := ⟨_, rfl⟩
  rw [eV2] at N2
  have HV2 := hide eV2
  have HTN2 := hide TN2
  have j1 : (0 : Int) ≤ (n1 : Int) + 1 := by omega
  have j2 : wrap64 ((n1 : Int) + 1) = (n1 : Int) + 1 := by unfold wrap64; omega
  clear TN2 eN2 eV2 ok1 hb1 hbs hl1 h45 hr1 hx1 ea
  go_wp2_with fail
  refine N2.mono ?_; rintro e w' ⟨hN, hw'⟩; obtain rfl := hw'.symm
  clear N2
  rcases hN with ⟨ok2, rfl⟩ | ⟨no2, rfl⟩
  rotate_left
  · have HR := hide (seg_no2 HL1.out (.inl no2))
    have HF := HZ
    obtain ⟨y0, y1, y2⟩ := Rg.cell3 HF.out.1
    clear no2
    clear fin
    go_wp2
    refine bodyPost_ret (v := .tuple #[.agg #[.int .u64 0, .int .u64 0, .int .u8 0], .bool false]) (by simp [results, Tryd.results66, go_sem, y0, y1, y2]) rfl ?_
    exact ⟨.inl ⟨HR.out, rfl⟩, HF.out.2⟩
  have hO2 := hide ok2
  obtain ⟨hb2, hc2⟩ := HTN2.out
  have hbs := HS.out
  have k0 : ¬ (n2 : Int) < 0 := by omega
  have k0' : decide ((n2 : Int) < 0) = false := by simp
  rcases hc2 with ⟨hsz, hl2⟩ | ⟨hlt2, q, hx2, hl2, hr2⟩
  · have HR := hide (seg_no2 HL1.out (.inr (no_end hl2)))
    have HF := HZ
    obtain ⟨y0, y1, y2⟩ := Rg.cell3 HF.out.1
    have k1 : (n2 : Int) ≥ (s.size : Int) := by omega
    have k2 : decide ((n2 : Int) ≥ (s.size : Int)) = true := by simpa using k1
    clear ok2 hb2 hbs hsz hl2
    clear fin
    go_wp2
    refine bodyPost_ret (v := .tuple #[.agg #[.int .u64 0, .int .u64 0, .int .u8 0], .bool false]) (by simp [results, Tryd.results66, go_sem, y0, y1, y2]) rfl ?_
    exact ⟨.inl ⟨HR.out, rfl⟩, HF.out.2⟩
  have k1 : ¬ (n2 : Int) ≥ (s.size : Int) := by omega
  have k2 : decide ((n2 : Int) ≥ (s.size : Int)) = false := by simpa using k1
  have k3 : (n2 : Int) < (s.size : Int) := by omega
  by_cases h58 : s[n2] = 58
  rotate_left
  · have HR := hide (seg_no2 HL1.out (.inr (no_sign hl2 h58)))
    have HF := HZ
    obtain ⟨y0, y1, y2⟩ := Rg.cell3 HF.out.1
    have k4 : ((s[n2].toNat : Int) != 58) = true := ne_u8 (b := 58) h58
    clear ok2 hb2 hbs hl2 h58 hr2 hx2
    clear fin
    go_wp2
    refine bodyPost_ret (v := .tuple #[.agg #[.int .u64 0, .int .u64 0, .int .u8 0], .bool false]) (by simp [results, Tryd.results66, go_sem, y0, y1, y2]) rfl ?_
    exact ⟨.inl ⟨HR.out, rfl⟩, HF.out.2⟩
  have k4 : ((s[n2].toNat : Int) != 58) = false := eq_u8 (b := 58) h58
  rw [h58] at hl2
  have HL2 := hide hl2
  have N3 := NN.out (n2 + 1) 15 (by omega) (by omega) (by omega)
  obtain ⟨n3, eN3, TN3⟩ := tw_nxt (l := q) (s := s) (a := n2 + 1) hr2 (by omega)
  have ea : ((n2 + 1 : Nat) : Int) = (n2 : Int) + 1 := by omega
  rw [ea, e15] at N3
  unfold NumR at N3
  rw [hr2, eN3] at N3
  obtain ⟨v3, eV3⟩ : ∃ v3, dv (tw q) = v3 := ⟨_, rfl⟩
  rw [eV3] at N3
  have HV3 := hide eV3
  have HTN3 := hide TN3
  have m1 : (0 : Int) ≤ (n2 : Int) + 1 := by omega
  have m2 : wrap64 ((n2 : Int) + 1) = (n2 : Int) + 1 := by unfold wrap64; omega
  clear TN3 eN3 eV3 ok2 hb2 hbs hl2 h58 hr2 hx2 ea
  go_wp2_with fail
  refine N3.mono ?_; rintro e w' ⟨hN, hw'⟩; obtain rfl := hw'.symm
  clear N3
  rcases hN with ⟨ok3, rfl⟩ | ⟨no3, rfl⟩
  rotate_left
  · have HR := hide (seg_no3 HL1.out HL2.out (.inl no3))
    have HF := HZ
    obtain ⟨y0, y1, y2⟩ := Rg.cell3 HF.out.1
    have k5 : ((-1 : Int) != (s.size : Int)) = true := by simp only [bne_iff_ne]; omega
    clear no3
    clear fin
    go_wp2
    refine bodyPost_ret (v := .tuple #[.agg #[.int .u64 0, .int .u64 0, .int .u8 0], .bool false]) (by simp [results, Tryd.results66, go_sem, y0, y1, y2]) rfl ?_
    exact ⟨.inl ⟨HR.out, rfl⟩, HF.out.2⟩
  have hO3 := hide ok3
  obtain ⟨hb3, hc3⟩ := HTN3.out
  rcases hc3 with ⟨hsz, hl3⟩ | ⟨hlt3, q3, hx3, hl3, hr3⟩
  rotate_left
  · have HR : Hid (segF s.data.toList = none) := hide (seg_no3 HL1.out HL2.out (.inr (fun e => by
      have h1 := congrArg List.length (hl3.symm.trans e)
      simp at h1)))
    have HF := HZ
    obtain ⟨y0, y1, y2⟩ := Rg.cell3 HF.out.1
    have k5 : ((n3 : Int) != (s.size : Int)) = true := by simp only [bne_iff_ne]; omega
    clear ok3 hb3 hl3 hr3 hx3
    clear fin
    go_wp2
    refine bodyPost_ret (v := .tuple #[.agg #[.int .u64 0, .int .u64 0, .int .u8 0], .bool false]) (by simp [results, Tryd.results66, go_sem, y0, y1, y2]) rfl ?_
    exact ⟨.inl ⟨HR.out, rfl⟩, HF.out.2⟩
  have HR : Hid (segF s.data.toList = some ⟨v1, v2, v3⟩) := hide (by
    rw [← HV1.out, ← HV2.out, ← HV3.out]
    exact seg_yes HL1.out HL2.out hl3 hO1.out hO2.out ok3)
  have h15 : v3 ≤ 15 := by rw [← HV3.out]; exact ok3.2.2
  have k5 : ((n3 : Int) != (s.size : Int)) = false := by rw [hsz]; simp
  have k6 : IntKind.u8.wrap (v3 : Int) = (v3 : Int) := by show (v3 : Int) % 256 = v3; omega
  have HF := fin (x := .int .u64 (v1 : Int)) (y := .int .u64 (v2 : Int)) (z := .int .u8 (v3 : Int))
  obtain ⟨y0, y1, y2⟩ := Rg.cell3 HF.out.1
  clear ok3 hb3 hsz hl3 fin h15
  go_wp2
  refine bodyPost_ret (v := .tuple #[.agg #[.int .u64 (v1 : Int), .int .u64 (v2 : Int), .int .u8 (v3 : Int)], .bool true]) (by simp [results, Tryd.results66, go_sem, y0, y1, y2]) rfl ?_
  exact ⟨.inr ⟨_, HR.out, rfl⟩, HF.out.2⟩
end Go.Proofs.YtffcnonhhfhlhaaDoor.Ws
