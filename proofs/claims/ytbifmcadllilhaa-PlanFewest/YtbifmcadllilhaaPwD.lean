import Derived.Test.YtbifmcadllilhaaPwA
import Derived.Test.YtbifmcadllilhaaPvF
namespace Go.Proofs.Ytbifmcadllilhaa.Rg
open Go.RowKit Go.Shelf Go.Sort
set_option linter.unusedVariables false
set_option maxRecDepth 100000 in
set_option maxHeartbeats 2000000 in
theorem fewest25 (q : Int) (hq : 0 ≤ q ∧ q ≤ 100000) (n : Nat) (hn : n ≤ 16) : ∀ (d i m : Nat) (w : World) (a : Option Addr) (c : Nat) (o : List Int), Pn.Ns w (.slice a n c) o → o.length = n → n - i = d → i ≤ n → m ≤ 16 → (∀ x ∈ o, 0 ≤ x ∧ x ≤ 4096) →
    Calls Try.prog 25 #[.slice a n c, .int .i64 (i : Int), .int .i64 q, .int .i64 (m : Int)] w fun e w' => e = .returned (.int .i64 (few q (o.drop i) m)) ∧ Kp Nu w w' := by
  intro d
  induction d with
  | zero =>
    intro i m w a c o ho hol hd hi hm hb
    obtain rfl : i = n := by omega
    have e0 : o.drop i = [] := List.drop_eq_nil_of_le (by omega)
    rw [e0]
    clear ho hol hd hb e0
    have x1 : ((i : Int) == (i : Int)) = true := by simp
    by_cases c0 : m = 0
    · subst c0
      go_enter Try.func25, Try.ntmps25
      go_wp2
      go_ret
      exact ⟨rfl, Kp.refl _ _⟩
    · have x2 : ((m : Int) == 0) = false := by simp; omega
      have e2 : few q [] m = 1099511627776 := by simp [few, c0]
      rw [e2]
      go_enter Try.func25, Try.ntmps25
      go_wp2
      go_ret
      exact ⟨rfl, Kp.refl _ _⟩
  | succ d ih =>
    intro i m w a c o ho hol hd hi hm hb
    have hin : i < n := by omega
    have hltI : (i : Int) < (n : Int) := by omega
    have hi0 : (0 : Int) ≤ (i : Int) := by omega
    have eti : (i : Int).toNat = i := by omega
    have x1 : ((i : Int) == (n : Int)) = false := by simp; omega
    obtain ⟨x, hx⟩ : ∃ x, o[i]? = some x := ⟨_, List.getElem?_eq_getElem (by omega)⟩
    have hxb := hb x (List.mem_of_getElem? hx)
    have edr : o.drop i = x :: o.drop (i + 1) := by
      have hlt' := (List.getElem?_eq_some_iff.1 hx).1
      rw [List.drop_eq_getElem_cons hlt', (List.getElem?_eq_some_iff.1 hx).2]
    have hexb : ∀ l : List Int, (∀ y ∈ l, 0 ≤ y ∧ y ≤ 4096) → ex q l ≤ (l.length : Int) * 4096 := fun l => by
      induction l with
      | nil => intro _; simp [ex]
      | cons y l ih2 =>
        intro h
        have h1 := h y (by simp)
        have h2 := ih2 (fun z hz => h z (by simp [hz]))
        rw [ex_cons, List.length_cons]
        have e : ((l.length + 1 : Nat) : Int) * 4096 = (l.length : Int) * 4096 + 4096 := by omega
        rw [e]
        split <;> omega
    have hex := hexb (o.drop (i + 1)) (fun y hy => hb y (List.mem_of_mem_drop hy))
    rw [List.length_drop, hol] at hex
    have hex2 : ex q (o.drop (i + 1)) ≤ 65536 := by omega
    have hex0 := ex_nonneg q (o.drop (i + 1))
    have bnd : ∀ k : Nat, -100 ≤ few q (o.drop (i + 1)) k ∧ few q (o.drop (i + 1)) k ≤ 1099511693312 := fun k => by
      obtain ⟨f1, f2, f3⟩ := few_val q (o.drop (i + 1)) k (by omega)
      refine ⟨?_, by omega⟩
      by_cases hk : k ≤ (o.drop (i + 1)).length
      · have h1 := f1 hk
        have h2 := cn_le_ex q (o.drop (i + 1))
        omega
      · have := f2 (by omega)
        omega
    obtain ⟨b1, rfl, z1⟩ := ho.at_ hx
    have I1 := fun w' (k : Kp Nu w w') => ih (i + 1) m w' (some b1) c o (ho.nu k.toPn) hol (by omega) (by omega) hm hb
    have I2 := fun w' (k : Kp Nu w w') => ih (i + 1) (m - 1) w' (some b1) c o (ho.nu k.toPn) hol (by omega) (by omega) (by omega) hb
    obtain ⟨R, eR⟩ : ∃ R, o.drop (i + 1) = R := ⟨_, rfl⟩
    rw [edr, eR]
    rw [eR] at bnd I1 I2
    obtain ⟨A, eA⟩ : ∃ A, few q R m = A := ⟨_, rfl⟩
    obtain ⟨B, eB⟩ : ∃ B, few q R (m - 1) = B := ⟨_, rfl⟩
    have bA := bnd m
    have bB := bnd (m - 1)
    rw [eA] at I1 bA
    rw [eB] at I2 bB
    have hA1 := bA.1
    have hA2 := bA.2
    have hB1 := bB.1
    have hB2 := bB.2
    have ei : ((i + 1 : Nat) : Int) = (i : Int) + 1 := by omega
    have z1' := fun w' (k : Kp Nu w w') => cell_nu z1 k
    have I1' := I1 w (Kp.refl _ _)
    rw [ei] at I1'
    have HX := hide (And.intro I2 (And.intro z1' (And.intro eA (And.intro eB (And.intro ho hol)))))
    have hq0 := hq.1
    have hq1 := hq.2
    have hx0 := hxb.1
    have hx1 := hxb.2
    have v1 : IntKind.i64.wrap (A + x) = A + x := by rw [IntKind.wrap_i64]; omega
    have v2 : IntKind.i64.wrap (A + x - q) = A + x - q := by rw [IntKind.wrap_i64]; omega
    have v3 : IntKind.i64.wrap (B + x) = B + x := by rw [IntKind.wrap_i64]; omega
    have v4 : IntKind.i64.wrap (B + x - q) = B + x - q := by rw [IntKind.wrap_i64]; omega
    have v5 : IntKind.i64.wrap (B + x - q - 1) = B + x - q - 1 := by rw [IntKind.wrap_i64]; omega
    have v6 : IntKind.i64.wrap (q + 1) = q + 1 := by rw [IntKind.wrap_i64]; omega
    have v7 : IntKind.i64.wrap ((m : Int) - 1) = (m : Int) - 1 := by rw [IntKind.wrap_i64]; omega
    clear ih ho hol hd hb hx hxb edr hexb hex hex2 hex0 bnd I1 I2 eR eA eB bA bB z1' ei hA1 hA2 hB1 hB2
    go_enter Try.func25, Try.ntmps25
    go_wp2_with fail
    refine I1'.mono ?_; rintro e w1 ⟨rfl, hk1⟩
    obtain ⟨I2, z1', eA, eB, ho, hol⟩ := HX.out
    have y1 := z1' w1 hk1
    have HK := hide hk1
    clear I1'
    by_cases cm : m = 0
    · have x2 : ((m : Int) == 0) = true := by simp; omega
      have HF : Hid (few q (x :: R) m = A + (if x > q then x - q else 0)) := hide (by rw [cm] at eA ⊢; rw [← eA]; rfl)
      clear I2 z1' eA eB ho hol hk1
      by_cases c1 : x > q
      · have d1 : decide (x > q) = true := by simpa using c1
        have HE : Hid (few q (x :: R) m = A + x - q) := hide (by rw [HF.out, if_pos c1]; omega)
        clear cm c1
        go_wp2
        go_ret
        exact ⟨by rw [HE.out]; rfl, HK.out⟩
      · have d1 : decide (x > q) = false := by simpa using c1
        have HE : Hid (few q (x :: R) m = A) := hide (by rw [HF.out, if_neg c1]; omega)
        clear cm c1
        go_wp2
        go_ret
        exact ⟨by rw [HE.out]; rfl, HK.out⟩
    · have x2 : ((m : Int) == 0) = false := by simp; omega
      have I2w := I2 w1 hk1
      have em : ((m - 1 : Nat) : Int) = (m : Int) - 1 := by omega
      have ei : ((i + 1 : Nat) : Int) = (i : Int) + 1 := by omega
      rw [em, ei] at I2w
      have HF : Hid (few q (x :: R) m = if B + (if x > q + 1 then x - q - 1 else 0) < A + (if x > q then x - q else 0) then B + (if x > q + 1 then x - q - 1 else 0) else A + (if x > q then x - q else 0)) := hide (by
        obtain ⟨m', rfl⟩ : ∃ m', m = m' + 1 := ⟨m - 1, by omega⟩
        rw [Nat.add_sub_cancel] at eB
        rw [← eA, ← eB]
        rfl)
      have HZ := hide (And.intro z1' hk1)
      clear I2 z1' eA eB ho hol hk1 cm em ei
      by_cases c1 : x > q
      · have d1 : decide (x > q) = true := by simpa using c1
        by_cases c2 : x > q + 1
        · have d2 : decide (x > q + 1) = true := by simpa using c2
          have C1 := hide c1
          have C2 := hide c2
          clear c1 c2
          go_wp2_with fail
          refine I2w.mono ?_; rintro e w2 ⟨rfl, hk2⟩
          have y2 := HZ.out.1 w2 (HZ.out.2.andNu hk2)
          have HK2 := hide (HZ.out.2.andNu hk2)
          clear I2w hk2
          by_cases c3 : B + x - q - 1 < A + x - q
          · have d3 : decide (B + x - q - 1 < A + x - q) = true := by simpa using c3
            have HE : Hid (few q (x :: R) m = B + x - q - 1) := hide (by have h1 := C1.out; have h2 := C2.out; rw [HF.out]; (repeat' split) <;> omega)
            clear c3
            go_wp2
            go_ret
            exact ⟨by rw [HE.out]; rfl, HK2.out⟩
          · have d3 : decide (B + x - q - 1 < A + x - q) = false := by simpa using c3
            have HE : Hid (few q (x :: R) m = A + x - q) := hide (by have h1 := C1.out; have h2 := C2.out; rw [HF.out]; (repeat' split) <;> omega)
            clear c3
            go_wp2
            go_ret
            exact ⟨by rw [HE.out]; rfl, HK2.out⟩
        · have d2 : decide (x > q + 1) = false := by simpa using c2
          have C1 := hide c1
          have C2 := hide c2
          clear c1 c2
          go_wp2_with fail
          refine I2w.mono ?_; rintro e w2 ⟨rfl, hk2⟩
          have y2 := HZ.out.1 w2 (HZ.out.2.andNu hk2)
          have HK2 := hide (HZ.out.2.andNu hk2)
          clear I2w hk2
          by_cases c3 : B < A + x - q
          · have d3 : decide (B < A + x - q) = true := by simpa using c3
            have HE : Hid (few q (x :: R) m = B) := hide (by have h1 := C1.out; have h2 := C2.out; rw [HF.out]; (repeat' split) <;> omega)
            clear c3
            go_wp2
            go_ret
            exact ⟨by rw [HE.out]; rfl, HK2.out⟩
          · have d3 : decide (B < A + x - q) = false := by simpa using c3
            have HE : Hid (few q (x :: R) m = A + x - q) := hide (by have h1 := C1.out; have h2 := C2.out; rw [HF.out]; (repeat' split) <;> omega)
            clear c3
            go_wp2
            go_ret
            exact ⟨by rw [HE.out]; rfl, HK2.out⟩
      · have d1 : decide (x > q) = false := by simpa using c1
        have c2 : ¬ x > q + 1 := by omega
        have d2 : decide (x > q + 1) = false := by simpa using c2
        have C1 := hide c1
        have C2 := hide c2
        clear c1 c2
        go_wp2_with fail
        refine I2w.mono ?_; rintro e w2 ⟨rfl, hk2⟩
        have y2 := HZ.out.1 w2 (HZ.out.2.andNu hk2)
        have HK2 := hide (HZ.out.2.andNu hk2)
        clear I2w hk2
        by_cases c3 : B < A
        · have d3 : decide (B < A) = true := by simpa using c3
          have HE : Hid (few q (x :: R) m = B) := hide (by have h1 := C1.out; have h2 := C2.out; rw [HF.out]; (repeat' split) <;> omega)
          clear c3
          go_wp2
          go_ret
          exact ⟨by rw [HE.out]; rfl, HK2.out⟩
        · have d3 : decide (B < A) = false := by simpa using c3
          have HE : Hid (few q (x :: R) m = A) := hide (by have h1 := C1.out; have h2 := C2.out; rw [HF.out]; (repeat' split) <;> omega)
          clear c3
          go_wp2
          go_ret
          exact ⟨by rw [HE.out]; rfl, HK2.out⟩
end Go.Proofs.Ytbifmcadllilhaa.Rg
