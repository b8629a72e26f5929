import Derived.Test.YtbifmcadllilhaaGreatStF
namespace Go.Proofs.YtbifmcadllilhaaGreat.Pn
open Go.RowKit
set_option linter.unusedVariables false
/-- the greatest, the least -/
def isMx (o : List Int) (m : Int) : Prop := m ∈ o ∧ ∀ x ∈ o, x ≤ m
def isMn (o : List Int) (m : Int) : Prop := m ∈ o ∧ ∀ x ∈ o, m ≤ x
theorem isMx.one (x : Int) : isMx [x] x := ⟨by simp, fun y hy => by simp at hy; omega⟩
theorem isMn.one (x : Int) : isMn [x] x := ⟨by simp, fun y hy => by simp at hy; omega⟩
theorem isMx.snoc {o : List Int} {m : Int} (h : isMx o m) (y : Int) : isMx (o ++ [y]) (max m y) := by
  refine ⟨?_, fun x hx => ?_⟩
  · rcases Int.le_total m y with h1 | h1
    · rw [Int.max_eq_right h1]; simp
    · rw [Int.max_eq_left h1]; exact List.mem_append.2 (.inl h.1)
  · rcases List.mem_append.1 hx with hx | hx
    · have := h.2 x hx; omega
    · simp at hx; omega
theorem isMn.snoc {o : List Int} {m : Int} (h : isMn o m) (y : Int) : isMn (o ++ [y]) (min m y) := by
  refine ⟨?_, fun x hx => ?_⟩
  · rcases Int.le_total m y with h1 | h1
    · rw [Int.min_eq_left h1]; exact List.mem_append.2 (.inl h.1)
    · rw [Int.min_eq_right h1]; simp
  · rcases List.mem_append.1 hx with hx | hx
    · have := h.2 x hx; omega
    · simp at hx; omega
theorem take_more {o : List Int} {i : Nat} {y : Int} (hy : o[i]? = some y) : o.take (i + 1) = o.take i ++ [y] := by rw [List.take_add_one, hy]; rfl
/-- what Max, Min answer -/
def MxR (o : List Int) (e : Ending) : Prop := ∃ m, e = .returned (.int .i64 m) ∧ isMx o m
def MnR (o : List Int) (e : Ending) : Prop := ∃ m, e = .returned (.int .i64 m) ∧ isMn o m
set_option maxRecDepth 100000 in
set_option maxHeartbeats 1000000 in
theorem max29 (w : World) (u : Value) (o : List Int) (h : Ns w u o) (h1 : 1 ≤ o.length) (h2 : o.length ≤ 16) : Calls Tryz.prog 38 #[u] w fun e w' => MxR o e ∧ w' = w := by
  obtain ⟨a, cap, rfl, _, _⟩ := id h
  obtain ⟨N, eN⟩ : ∃ N, o.length = N := ⟨_, rfl⟩
  obtain ⟨x0, hx0⟩ : ∃ x, o[0]? = some x := ⟨_, List.getElem?_eq_getElem (by omega)⟩
  obtain ⟨b, rfl, c0⟩ := h.at_ hx0
  have c0' : w.cell? b = some (.int .i64 x0) := by simpa [Addr.add] using c0
  have HN := hide (And.intro h (And.intro eN hx0))
  rw [eN] at h1 h2 ⊢
  have hNI : (N : Int) ≤ 16 := by omega
  have hN1 : (1 : Int) ≤ (N : Int) := by omega
  have hN0 : (0 : Int) < (N : Int) := by omega
  have dN : decide ((N : Int) < 1) = false := by simp; omega
  clear h eN hx0
  go_enter Tryz.func38, Tryz.ntmps38
  go_wp2
  clear c0 c0'
  go_loopw [3, 4] (fun mv iv wr => ∃ (i : Nat) (m : Int), iv = .int .i64 (i : Int) ∧ mv = .int .i64 m ∧ 1 ≤ i ∧ i ≤ N ∧ wr = w ∧ Hid (isMx (o.take i) m)) (fun _ iv _ => N - (intOf iv).toNat)
  case atStart => exact ⟨1, x0, rfl, rfl, Nat.le_refl _, h1, rfl, hide (by rw [take_more (i := 0) HN.out.2.2]; exact isMx.one x0)⟩
  case round =>
    obtain ⟨i, m, rfl, rfl, hi1, hi, hw, hI⟩ := hrel
    obtain rfl := hw
    have hi0 : (0 : Int) ≤ (i : Int) := by omega
    by_cases hlt : i < N
    · have hltI : (i : Int) < (N : Int) := by omega
      obtain ⟨y, hy⟩ : ∃ y, o[i]? = some y := ⟨_, List.getElem?_eq_getElem (by rw [HN.out.2.1]; exact hlt)⟩
      obtain ⟨b', e', hc⟩ := HN.out.1.at_ hy
      simp only [Option.some.injEq] at e'
      subst e'
      have HY := hide hy
      have eti : (i : Int).toNat = i := by omega
      clear hy
      go_wp2
      refine ⟨⟨i + 1, max m y, by go_num, by congr 1 <;> (split <;> omega), by omega, by omega, trivial, hide ?_⟩, by simp [intOf]; omega⟩
      rw [take_more HY.out]
      exact hI.out.snoc y
    · have hge : ¬ (i : Int) < (N : Int) := by omega
      have HE : Hid (isMx o m) := hide (by
        have h := hI.out
        rw [List.take_of_length_le (by have := HN.out.2.1; omega)] at h
        exact h)
      go_wp2
      go_ret
      exact ⟨⟨_, rfl, HE.out⟩, rfl⟩
set_option maxRecDepth 100000 in
set_option maxHeartbeats 1000000 in
theorem min54 (w : World) (u : Value) (o : List Int) (h : Ns w u o) (h1 : 1 ≤ o.length) (h2 : o.length ≤ 16) : Calls Tryz.prog 62 #[u] w fun e w' => MnR o e ∧ w' = w := by
  obtain ⟨a, cap, rfl, _, _⟩ := id h
  obtain ⟨N, eN⟩ : ∃ N, o.length = N := ⟨_, rfl⟩
  obtain ⟨x0, hx0⟩ : ∃ x, o[0]? = some x := ⟨_, List.getElem?_eq_getElem (by omega)⟩
  obtain ⟨b, rfl, c0⟩ := h.at_ hx0
  have c0' : w.cell? b = some (.int .i64 x0) := by simpa [Addr.add] using c0
  have HN := hide (And.intro h (And.intro eN hx0))
  rw [eN] at h1 h2 ⊢
  have hNI : (N : Int) ≤ 16 := by omega
  have hN1 : (1 : Int) ≤ (N : Int) := by omega
  have hN0 : (0 : Int) < (N : Int) := by omega
  have dN : decide ((N : Int) < 1) = false := by simp; omega
  clear h eN hx0
  go_enter Tryz.func62, Tryz.ntmps62
  go_wp2
  clear c0 c0'
  go_loopw [3, 4] (fun mv iv wr => ∃ (i : Nat) (m : Int), iv = .int .i64 (i : Int) ∧ mv = .int .i64 m ∧ 1 ≤ i ∧ i ≤ N ∧ wr = w ∧ Hid (isMn (o.take i) m)) (fun _ iv _ => N - (intOf iv).toNat)
  case atStart => exact ⟨1, x0, rfl, rfl, Nat.le_refl _, h1, rfl, hide (by rw [take_more (i := 0) HN.out.2.2]; exact isMn.one x0)⟩
  case round =>
    obtain ⟨i, m, rfl, rfl, hi1, hi, hw, hI⟩ := hrel
    obtain rfl := hw
    have hi0 : (0 : Int) ≤ (i : Int) := by omega
    by_cases hlt : i < N
    · have hltI : (i : Int) < (N : Int) := by omega
      obtain ⟨y, hy⟩ : ∃ y, o[i]? = some y := ⟨_, List.getElem?_eq_getElem (by rw [HN.out.2.1]; exact hlt)⟩
      obtain ⟨b', e', hc⟩ := HN.out.1.at_ hy
      simp only [Option.some.injEq] at e'
      subst e'
      have HY := hide hy
      have eti : (i : Int).toNat = i := by omega
      clear hy
      go_wp2
      refine ⟨⟨i + 1, min m y, by go_num, by congr 1 <;> (split <;> omega), by omega, by omega, trivial, hide ?_⟩, by simp [intOf]; omega⟩
      rw [take_more HY.out]
      exact hI.out.snoc y
    · have hge : ¬ (i : Int) < (N : Int) := by omega
      have HE : Hid (isMn o m) := hide (by
        have h := hI.out
        rw [List.take_of_length_le (by have := HN.out.2.1; omega)] at h
        exact h)
      go_wp2
      go_ret
      exact ⟨⟨_, rfl, HE.out⟩, rfl⟩
end Go.Proofs.YtbifmcadllilhaaGreat.Pn
namespace Go.Proofs.YtbifmcadllilhaaGreat.Pn
open Go.RowKit
set_option linter.unusedVariables false
/-- loads that may be -/
def MBL (o : List Int) : Prop := 1 ≤ o.length ∧ o.length ≤ 16 ∧ ∀ x ∈ o, 0 ≤ x ∧ x ≤ 1073741824
set_option maxHeartbeats 1000000 in
theorem hosts41 (w : World) (n : Int) : Calls Tryz.prog 25 #[.int .i64 n] w fun e w' => Ans (1 ≤ n ∧ n ≤ 16) e ∧ w' = w := by
  by_cases h1 : 1 ≤ n
  · have d1 : decide (n ≥ 1) = true := by simpa using h1
    have H := hide h1
    clear h1
    go_enter Tryz.func25, Tryz.ntmps25
    go_wp2
    go_ret
    exact ⟨⟨_, rfl, by have := H.out; simp [this]⟩, rfl⟩
  · have d1 : decide (n ≥ 1) = false := by simpa using h1
    have H := hide h1
    clear h1
    go_enter Tryz.func25, Tryz.ntmps25
    go_wp2
    go_ret
    exact ⟨⟨_, rfl, by simp; have := H.out; omega⟩, rfl⟩
set_option maxRecDepth 100000 in
set_option maxHeartbeats 1000000 in
theorem mayBe27 (w : World) (u : Value) (o : List Int) (h : Ns w u o) (hN : o.length ≤ 140737488351232) : Calls Tryz.prog 36 #[u] w fun e w' => Ans (MBL o) e ∧ w' = w := by
  obtain ⟨a, cap, rfl, _, _⟩ := id h
  obtain ⟨N, eN⟩ : ∃ N, o.length = N := ⟨_, rfl⟩
  have HO := hosts41 w (N : Int)
  have HN := hide (And.intro h eN)
  rw [eN] at hN ⊢
  clear h eN
  go_enter Tryz.func36, Tryz.ntmps36
  go_wp2_with fail
  refine HO.mono ?_; rintro e w1 ⟨⟨b1, rfl, hb1⟩, hw⟩
  obtain rfl := hw
  have HB := hide hb1
  clear HO hb1
  cases b1 with
  | false =>
    go_wp2
    go_ret
    refine ⟨⟨false, rfl, ?_⟩, rfl⟩
    simp
    rintro ⟨q1, q2, _⟩
    have := HB.out.2 ⟨by have := HN.out.2; omega, by have := HN.out.2; omega⟩
    simp at this
  | true =>
  have hr : 1 ≤ o.length ∧ o.length ≤ 16 := by
    have := HB.out.1 (by simp)
    have := HN.out.2
    omega
  have MI := min54 w1 (.slice a N cap) o (by have q := HN.out.1; rw [HN.out.2] at q; exact q) hr.1 hr.2
  have MA := max29 w1 (.slice a N cap) o (by have q := HN.out.1; rw [HN.out.2] at q; exact q) hr.1 hr.2
  have HR := hide hr
  clear hr
  go_wp2_with fail
  refine MI.mono ?_; rintro e w2 ⟨⟨m, rfl, hm⟩, hw⟩
  obtain rfl := hw
  have HM := hide hm
  clear MI hm
  by_cases h0 : 0 ≤ m
  · have d0 : decide (m ≥ 0) = true := by simpa using h0
    have H0 := hide h0
    clear h0
    go_wp2_with fail
    refine MA.mono ?_; rintro e w3 ⟨⟨M, rfl, hM⟩, hw⟩
    obtain rfl := hw
    have HX := hide hM
    clear MA hM
    go_wp2
    go_ret
    refine ⟨⟨_, rfl, ?_⟩, rfl⟩
    simp only [decide_eq_true_eq]
    refine ⟨fun q => ⟨HR.out.1, HR.out.2, fun x hx => ?_⟩, fun q => (q.2.2 M HX.out.1).2⟩
    have := HM.out.2 x hx
    have := HX.out.2 x hx
    have := H0.out
    omega
  · have d0 : decide (m ≥ 0) = false := by simpa using h0
    have H0 := hide h0
    clear h0 MA
    go_wp2
    go_ret
    refine ⟨⟨false, rfl, ?_⟩, rfl⟩
    simp
    intro q
    have q1 := (q.2.2 m HM.out.1).1
    have := H0.out
    omega
theorem sum_snoc (o : List Int) (y : Int) : (o ++ [y]).sum = o.sum + y := by simp
theorem sum_bound {o : List Int} : ∀ (h : ∀ x ∈ o, 0 ≤ x ∧ x ≤ 1073741824), 0 ≤ o.sum ∧ o.sum ≤ (o.length : Int) * 1073741824 := by
  induction o with
  | nil => intro _; simp
  | cons x o ih =>
    intro h
    have h1 := h x (by simp)
    have h2 := ih (fun y hy => h y (by simp [hy]))
    simp only [List.sum_cons, List.length_cons]
    omega
theorem sum_take {o : List Int} (h : ∀ x ∈ o, 0 ≤ x ∧ x ≤ 1073741824) (h2 : o.length ≤ 16) (i : Nat) : 0 ≤ (o.take i).sum ∧ (o.take i).sum ≤ 17179869184 := by
  have := sum_bound (o := o.take i) (fun x hx => h x (List.mem_of_mem_take hx))
  rw [List.length_take] at this
  omega
set_option maxRecDepth 100000 in
set_option maxHeartbeats 1000000 in
theorem total28 (w : World) (u : Value) (o : List Int) (h : Ns w u o) (hm : MBL o) : Calls Tryz.prog 37 #[u] w fun e w' => e = .returned (.int .i64 o.sum) ∧ w' = w := by
  obtain ⟨a, cap, rfl, _, _⟩ := id h
  obtain ⟨N, eN⟩ : ∃ N, o.length = N := ⟨_, rfl⟩
  have HN := hide (And.intro h (And.intro eN hm))
  have hNI : (N : Int) ≤ 16 := by have := hm.2.1; omega
  rw [eN]
  clear h eN hm
  go_enter Tryz.func37, Tryz.ntmps37
  go_wp2
  go_loopw [3, 8] (fun sv iv wr => ∃ (i : Nat) (s : Int), iv = .int .i64 (i : Int) ∧ sv = .int .i64 s ∧ i ≤ N ∧ wr = w ∧ Hid (s = (o.take i).sum)) (fun _ iv _ => N - (intOf iv).toNat)
  case atStart => exact ⟨0, 0, rfl, rfl, Nat.zero_le _, rfl, hide (by simp)⟩
  case round =>
    obtain ⟨i, s, rfl, rfl, hi, hw, hI⟩ := hrel
    obtain rfl := hw
    have hi0 : (0 : Int) ≤ (i : Int) := by omega
    by_cases hlt : i < N
    · have hltI : (i : Int) < (N : Int) := by omega
      obtain ⟨y, hy⟩ : ∃ y, o[i]? = some y := ⟨_, List.getElem?_eq_getElem (by rw [HN.out.2.1]; exact hlt)⟩
      obtain ⟨b', e', hc⟩ := HN.out.1.at_ hy
      subst e'
      have hs := sum_take HN.out.2.2.2.2 HN.out.2.2.2.1 i
      have hs2 := sum_take HN.out.2.2.2.2 HN.out.2.2.2.1 (i + 1)
      rw [take_more hy, sum_snoc] at hs2
      rw [← hI.out] at hs hs2
      have ew : IntKind.i64.wrap (s + y) = s + y := by rw [IntKind.wrap_i64]; omega
      have ew2 : wrap64 (s + y) = s + y := by unfold wrap64; omega
      have HY := hide hy
      have eti : (i : Int).toNat = i := by omega
      clear hy hs hs2
      go_wp2
      refine ⟨⟨i + 1, s + y, by go_num, by first | rfl | (congr 1), by omega, trivial, hide ?_⟩, by simp [intOf]; omega⟩
      rw [take_more HY.out, sum_snoc, hI.out]
    · have hge : ¬ (i : Int) < (N : Int) := by omega
      have HE : Hid (s = o.sum) := hide (by
        have h := hI.out
        rw [List.take_of_length_le (by have := HN.out.2.1; omega)] at h
        exact h)
      go_wp2
      go_ret
      have q := HE.out
      exact ⟨by first | exact q | (simp [q]), rfl⟩
/-- what Total answers -/
def TtR (o : List Int) (e : Ending) : Prop := ∃ t, e = .returned (.int .i64 t) ∧ (MBL o ∧ t = o.sum ∨ ¬ MBL o ∧ t = -1)
end Go.Proofs.YtbifmcadllilhaaGreat.Pn
namespace Go.Proofs.YtbifmcadllilhaaGreat.Pn
open Go.RowKit Ieee
set_option linter.unusedVariables false
set_option linter.unusedSimpArgs false
/-- how the quotient of two whole numbers is rounded -/
structure Qn (a b L K : Nat) : Prop where
  l : L ≤ 41
  lo : b * 2 ^ L ≤ a
  hi : a < b * 2 ^ (L + 1)
  k1 : 2 * (K * b) ≤ 2 * (a * 2 ^ (52 - L)) + b
  k2 : 2 * (a * 2 ^ (52 - L)) ≤ 2 * (K * b) + b
  t1 : 2 * (K * b) = 2 * (a * 2 ^ (52 - L)) + b → K % 2 = 0
  t2 : 2 * (a * 2 ^ (52 - L)) = 2 * (K * b) + b → K % 2 = 0
theorem pow_lt_pow_iff' {i j : Nat} (h : 2 ^ i < 2 ^ j) : i < j := (Nat.pow_lt_pow_iff_right (by decide)).1 h
/-- out of the scaled form -/
theorem unscale {a b X n d D K P : Nat} (hP : 0 < P) (hb : 0 < b) (e : X * P = 2 * D * b) (h1 : 2 * K * P ≤ 4 * D + P) (h2 : 4 * D ≤ 2 * K * P + P) (h3 : 2 * K * P = 4 * D + P → K % 2 = 0) (h4 : 4 * D = 2 * K * P + P → K % 2 = 0) :
    2 * (K * b) ≤ 2 * X + b ∧ 2 * X ≤ 2 * (K * b) + b ∧ (2 * (K * b) = 2 * X + b → K % 2 = 0) ∧ (2 * X = 2 * (K * b) + b → K % 2 = 0) := by
  have e1 : (2 * (K * b)) * P = (2 * K * P) * b := by rw [← Nat.mul_assoc, Nat.mul_right_comm]
  have e2 : (2 * X + b) * P = (4 * D + P) * b := by
    rw [Nat.add_mul, Nat.mul_assoc 2 X P, e, Nat.add_mul]
    congr 1
    · rw [← Nat.mul_assoc, ← Nat.mul_assoc]
    · exact Nat.mul_comm _ _
  have e3 : (2 * X) * P = (4 * D) * b := by rw [Nat.mul_assoc 2 X P, e, ← Nat.mul_assoc, ← Nat.mul_assoc]
  have e4 : (2 * (K * b) + b) * P = (2 * K * P + P) * b := by rw [Nat.add_mul, e1, Nat.add_mul, Nat.mul_comm b P]
  refine ⟨?_, ?_, fun h => h3 ?_, fun h => h4 ?_⟩
  · exact Nat.le_of_mul_le_mul_right (by rw [e1, e2]; exact Nat.mul_le_mul_right b h1) hP
  · exact Nat.le_of_mul_le_mul_right (by rw [e3, e4]; exact Nat.mul_le_mul_right b h2) hP
  · exact Nat.eq_of_mul_eq_mul_right hb (by rw [← e1, ← e2, h])
  · exact Nat.eq_of_mul_eq_mul_right hb (by rw [← e3, ← e4, h])
theorem quo_near (a b : Nat) (hb : 0 < b) (hab : b ≤ a) (ha : a < 2 ^ 41) : ∃ L K, Qn a b L K ∧ double.div (double.nearest false a 0) (double.nearest false b 0) = some ((L + 1022) * 2 ^ 52 + K) := by
  have ra := read_int a (by omega) ha
  have rb := read_int b hb (by omega)
  have la41 : a.log2 < 41 := (Nat.log2_lt (by omega)).2 ha
  have lb41 : b.log2 < 41 := (Nat.log2_lt (by omega)).2 (by omega)
  have a1 := Nat.log2_self_le (n := a) (by omega)
  have a2 := Nat.lt_log2_self (n := a)
  have b1 := Nat.log2_self_le (n := b) (by omega)
  have b2 := Nat.lt_log2_self (n := b)
  have lba : b.log2 ≤ a.log2 := by
    have : 2 ^ b.log2 < 2 ^ (a.log2 + 1) := by omega
    have := pow_lt_pow_iff' this
    omega
  generalize hla : a.log2 = la at *
  generalize hlb : b.log2 = lb at *
  have two : ∀ x lx : Nat, lx < 41 → 2 ^ lx ≤ x → x < 2 ^ (lx + 1) → 2 ^ 52 ≤ x * 2 ^ (52 - lx) ∧ x * 2 ^ (52 - lx) < 2 ^ 53 := fun x lx h h1 h2 => by
    constructor
    · have : 2 ^ lx * 2 ^ (52 - lx) ≤ x * 2 ^ (52 - lx) := Nat.mul_le_mul_right _ h1
      rw [← Nat.pow_add, show lx + (52 - lx) = 52 by omega] at this
      exact this
    · have : x * 2 ^ (52 - lx) < 2 ^ (lx + 1) * 2 ^ (52 - lx) := Nat.mul_lt_mul_of_pos_right h2 (Nat.pow_pos (by decide))
      rw [← Nat.pow_add, show lx + 1 + (52 - lx) = 53 by omega] at this
      exact this
  obtain ⟨m1, m2⟩ := two a la la41 a1 a2
  obtain ⟨n1, n2⟩ := two b lb lb41 b1 b2
  obtain ⟨m, hm⟩ : ∃ m, a * 2 ^ (52 - la) = m := ⟨_, rfl⟩
  obtain ⟨n, hn⟩ : ∃ n, b * 2 ^ (52 - lb) = n := ⟨_, rfl⟩
  rw [hm] at ra m1 m2
  rw [hn] at rb n1 n2
  have lm : m.log2 = 52 := log_of m1 m2
  have ln : n.log2 = 52 := log_of n1 n2
  obtain ⟨q, hq⟩ : ∃ q, m * 2 ^ 54 / n = q := ⟨_, rfl⟩
  obtain ⟨r, hr⟩ : ∃ r, m * 2 ^ 54 % n = r := ⟨_, rfl⟩
  have hD : m * 2 ^ 54 = n * q + r := by rw [← hq, ← hr]; exact (Nat.div_add_mod _ _).symm
  have hrn : r < n := by rw [← hr]; exact Nat.mod_lt _ (by omega)
  obtain ⟨s, hs⟩ : ∃ s, (r != 0).toNat = s := ⟨_, rfl⟩
  have s1 : s ≤ 1 := by rw [← hs]; cases (r != 0) <;> simp
  have ediv : double.div (double.nearest false a 0) (double.nearest false b 0) = some (double.nearest false (2 * q + s) ((la : Int) - (lb : Int) - 55)) := by
    show Option.map double.write ((double.read (double.nearest false a 0)).quotient 54 (double.read (double.nearest false b 0))) = _
    rw [ra, rb]
    simp only [Datum.quotient]
    rw [if_neg (by omega), lm, ln]
    show some (double.nearest _ _ _) = _
    rw [Nat.shiftLeft_eq, show 54 + 52 - 52 = 54 from rfl, hq, hr, hs]
    have e5 : (la : Int) - 52 - ((lb : Int) - 52) - ((54 : Nat) : Int) - 1 = (la : Int) - (lb : Int) - 55 := by omega
    rw [e5, Bool.xor_self]
  have q1 : 2 ^ 53 ≤ q := by
    rw [← hq, Nat.le_div_iff_mul_le (by omega)]
    have : 2 ^ 53 * n ≤ 2 ^ 53 * 2 ^ 53 := Nat.mul_le_mul_left _ (by omega)
    have h2 : 2 ^ 52 * 2 ^ 54 ≤ m * 2 ^ 54 := Nat.mul_le_mul_right _ m1
    exact Nat.le_trans this (Nat.le_trans (Nat.le_of_eq ((Nat.pow_add 2 53 53).symm.trans (Nat.pow_add 2 52 54))) h2)
  have q2 : q < 2 ^ 55 := by
    rw [← hq, Nat.div_lt_iff_lt_mul (by omega)]
    have : m * 2 ^ 54 < 2 ^ 53 * 2 ^ 54 := Nat.mul_lt_mul_of_pos_right m2 (by decide)
    have h2 : 2 ^ 55 * 2 ^ 52 ≤ 2 ^ 55 * n := Nat.mul_le_mul_left _ n1
    exact Nat.lt_of_lt_of_le this (Nat.le_trans (Nat.le_of_eq ((Nat.pow_add 2 53 54).symm.trans (Nat.pow_add 2 55 52))) h2)
  -- of both ways
  have both : ∀ d L : Nat, 2 ≤ d → d ≤ 3 → la + d = L + lb + 3 → (2 * q + s).log2 = d + 52 → b * 2 ^ L ≤ a → a < b * 2 ^ (L + 1) → L ≤ 41 → ∃ L K, Qn a b L K ∧ double.div (double.nearest false a 0) (double.nearest false b 0) = some ((L + 1022) * 2 ^ 52 + K) := fun d L d2 d3 hL hlog hlo hhi hL41 => by
    obtain ⟨K, hK⟩ : ∃ K, Toward.even.cut false (2 * q + s) d = K := ⟨_, rfl⟩
    have cn := cut_near (2 * q + s) d (by omega)
    rw [hK] at cn
    obtain ⟨c1, c2, c3, c4⟩ := cn
    obtain ⟨g1, g2, g3, g4⟩ := sticky (D := m * 2 ^ 54) (n := n) (d := d) (K := K) (by omega) d2 hD hrn hs.symm c1 c2 c3 c4
    have ePX : (a * 2 ^ (52 - L)) * (n * 2 ^ d) = 2 * (m * 2 ^ 54) * b := by
      rw [← hm, ← hn]
      have e1 : (a * 2 ^ (52 - L)) * (b * 2 ^ (52 - lb) * 2 ^ d) = a * b * (2 ^ (52 - L) * 2 ^ (52 - lb) * 2 ^ d) := by
        simp only [Nat.mul_assoc, Nat.mul_left_comm, Nat.mul_comm]
      have e2 : 2 * (a * 2 ^ (52 - la) * 2 ^ 54) * b = a * b * (2 ^ 1 * 2 ^ (52 - la) * 2 ^ 54) := by
        generalize 2 ^ 54 = t
        simp only [Nat.pow_one, Nat.mul_assoc, Nat.mul_left_comm, Nat.mul_comm]
      rw [e1, e2, ← Nat.pow_add, ← Nat.pow_add, ← Nat.pow_add, ← Nat.pow_add]
      congr 2
      omega
    obtain ⟨u1, u2, u3, u4⟩ := unscale (a := a) (n := n) (d := d) (P := n * 2 ^ d) (Nat.mul_pos (by omega) (Nat.pow_pos (by decide))) hb ePX g1 g2 g3 g4
    refine ⟨L, K, ⟨hL41, hlo, hhi, u1, u2, u3, u4⟩, ?_⟩
    rw [ediv]
    have hlp : double.leastPlace = -1074 := rfl
    have hfb : double.fractionBits = 52 := rfl
    have hbi : double.binade = 2 ^ 52 := rfl
    have hi : double.infRung = 2047 * 2 ^ 52 := rfl
    have e1 : max ((la : Int) - (lb : Int) - 55 + ((2 * q + s).log2 : Int) - (double.fractionBits : Int)) double.leastPlace = (L : Int) - 52 := by
      rw [hlp, hfb, hlog]; omega
    have e2 : ((la : Int) - (lb : Int) - 55 - ((L : Int) - 52)).toNat = 0 := by omega
    have e3 : ((L : Int) - 52 - ((la : Int) - (lb : Int) - 55)).toNat = d := by omega
    have e4 : ((L : Int) - 52 - double.leastPlace).toNat = L + 1022 := by rw [hlp]; omega
    have kb : K ≤ 2 ^ 53 := by
      have hx : a * 2 ^ (52 - L) < b * 2 ^ 53 := by
        have : a * 2 ^ (52 - L) < b * 2 ^ (L + 1) * 2 ^ (52 - L) := Nat.mul_lt_mul_of_pos_right hhi (Nat.pow_pos (by decide))
        rw [Nat.mul_assoc, ← Nat.pow_add, show L + 1 + (52 - L) = 53 by omega] at this
        exact this
      rcases Nat.lt_or_ge (2 ^ 53) K with c | c
      · have : (2 ^ 53 + 1) * b ≤ K * b := Nat.mul_le_mul_right _ c
        rw [Nat.add_mul] at this
        omega
      · exact c
    congr 1
    unfold Format.nearest
    rw [if_neg (by omega)]
    simp only [e1, e2, e3, e4, hbi, hi, Nat.shiftLeft_zero, hK]
    rw [Nat.min_eq_left (by omega)]
    simp [Format.word]
  rcases Nat.lt_or_ge m n with c | c
  · -- the next lower power
    have hlt : lb < la := by
      rcases Nat.lt_or_ge lb la with h | h
      · exact h
      · have e : la = lb := by omega
        subst e
        have := Nat.mul_le_mul_right (2 ^ (52 - la)) hab
        omega
    have q3 : q < 2 ^ 54 := by
      rw [← hq, Nat.div_lt_iff_lt_mul (by omega)]
      rw [Nat.mul_comm (2 ^ 54) n]
      exact Nat.mul_lt_mul_of_pos_right c (by decide)
    refine both 2 (la - lb - 1) (by omega) (by omega) (by omega) (log_of (by omega) (by omega)) ?_ ?_ (by omega)
    · have : b * 2 ^ (la - lb - 1) < 2 ^ (lb + 1) * 2 ^ (la - lb - 1) := Nat.mul_lt_mul_of_pos_right b2 (Nat.pow_pos (by decide))
      rw [← Nat.pow_add, show lb + 1 + (la - lb - 1) = la by omega] at this
      omega
    · have h1 : a * 2 ^ (52 - la) < b * 2 ^ (la - lb) * 2 ^ (52 - la) := by
        rw [Nat.mul_assoc, ← Nat.pow_add, show la - lb + (52 - la) = 52 - lb by omega, hm, hn]
        exact c
      have := Nat.lt_of_mul_lt_mul_right h1
      rw [show la - lb - 1 + 1 = la - lb by omega]
      exact this
  · have q3 : 2 ^ 54 ≤ q := by
      rw [← hq, Nat.le_div_iff_mul_le (by omega)]
      rw [Nat.mul_comm m (2 ^ 54)]
      exact Nat.mul_le_mul_left _ c
    refine both 3 (la - lb) (by omega) (by omega) (by omega) (log_of (by omega) (by omega)) ?_ ?_ (by omega)
    · have h1 : b * 2 ^ (la - lb) * 2 ^ (52 - la) ≤ a * 2 ^ (52 - la) := by
        rw [Nat.mul_assoc, ← Nat.pow_add, show la - lb + (52 - la) = 52 - lb by omega, hm, hn]
        exact c
      exact Nat.le_of_mul_le_mul_right h1 (Nat.pow_pos (by decide))
    · have : 2 ^ lb * 2 ^ (la - lb + 1) ≤ b * 2 ^ (la - lb + 1) := Nat.mul_le_mul_right _ b1
      rw [← Nat.pow_add, show lb + (la - lb + 1) = la + 1 by omega] at this
      omega
theorem Qn.kb {a b L K : Nat} (h : Qn a b L K) (hb : 0 < b) : 2 ^ 52 ≤ K ∧ K ≤ 2 ^ 53 := by
  have hl := h.l
  have h1 := h.k1
  have h2 := h.k2
  have hx : a * 2 ^ (52 - L) < b * 2 ^ 53 := by
    have : a * 2 ^ (52 - L) < b * 2 ^ (L + 1) * 2 ^ (52 - L) := Nat.mul_lt_mul_of_pos_right h.hi (Nat.pow_pos (by decide))
    rw [Nat.mul_assoc, ← Nat.pow_add, show L + 1 + (52 - L) = 53 by omega] at this
    exact this
  have hy : b * 2 ^ 52 ≤ a * 2 ^ (52 - L) := by
    have : b * 2 ^ L * 2 ^ (52 - L) ≤ a * 2 ^ (52 - L) := Nat.mul_le_mul_right _ h.lo
    rw [Nat.mul_assoc, ← Nat.pow_add, show L + (52 - L) = 52 by omega] at this
    exact this
  constructor
  · rcases Nat.lt_or_ge K (2 ^ 52) with c | c
    · have : (K + 1) * b ≤ 2 ^ 52 * b := Nat.mul_le_mul_right _ c
      rw [Nat.add_mul] at this
      omega
    · exact c
  · rcases Nat.lt_or_ge (2 ^ 53) K with c | c
    · have : (2 ^ 53 + 1) * b ≤ K * b := Nat.mul_le_mul_right _ c
      rw [Nat.add_mul] at this
      omega
    · exact c
theorem Qn.mono {a a' b L L' K K' : Nat} (h : Qn a b L K) (h' : Qn a' b L' K') (hb : 0 < b) (ha : a' ≤ a) : (L' + 1022) * 2 ^ 52 + K' ≤ (L + 1022) * 2 ^ 52 + K := by
  have k := h.kb hb
  have k' := h'.kb hb
  have hL : L' ≤ L := by
    have h1 : b * 2 ^ L' < b * 2 ^ (L + 1) := Nat.lt_of_le_of_lt (Nat.le_trans h'.lo ha) h.hi
    have := pow_lt_pow_iff' (Nat.lt_of_mul_lt_mul_left h1)
    omega
  rcases Nat.lt_or_ge L' L with c | c
  · omega
  · obtain rfl : L' = L := by omega
    have hX : a' * 2 ^ (52 - L') ≤ a * 2 ^ (52 - L') := Nat.mul_le_mul_right _ ha
    rcases Nat.lt_or_ge K K' with d | d
    · have h1 := h'.k1
      have h2 := h.k2
      have h3 : (K + 1) * b ≤ K' * b := Nat.mul_le_mul_right _ d
      have h4 : (K + 1) * b = K * b + b := by rw [Nat.add_mul, Nat.one_mul]
      rw [h4] at h3
      have t1 := h'.t1 (by omega)
      have t2 := h.t2 (by omega)
      have e : K' * b = (K + 1) * b := by omega
      have := Nat.eq_of_mul_eq_mul_right hb e
      omega
    · omega
/-- words of numbers stand as their rungs do -/
theorem order_word {x y : Nat} (h : x ≤ y) (hx : 2 ^ 52 ≤ x) (hy : y < 2047 * 2 ^ 52) : double.order x y = some .lt ∨ double.order x y = some .eq := by
  have hb : double.binade = 2 ^ 52 := rfl
  have hi : double.infRung = 2047 * 2 ^ 52 := rfl
  have hs : double.signWeight = 2 ^ 63 := rfl
  have rd : ∀ z, 2 ^ 52 ≤ z → z < 2047 * 2 ^ 52 → double.read z = .number false (2 ^ 52 + z % 2 ^ 52) (double.leastPlace + (z / 2 ^ 52 - 1 : Nat)) := fun z h1 h2 => by
    unfold Format.read
    simp only [hb, hi, hs]
    rw [Nat.mod_eq_of_lt (show z < 2 ^ 63 by omega), if_neg (by omega), if_pos h2, Nat.div_eq_of_lt (show z < 2 ^ 63 by omega)]
    rfl
  unfold Format.order
  rw [rd x hx (by omega), rd y (by omega) hy]
  simp only [Datum.order]
  obtain ⟨p, hp⟩ : ∃ p, x / 2 ^ 52 - 1 = p := ⟨_, rfl⟩
  obtain ⟨q, hq⟩ : ∃ q, y / 2 ^ 52 - 1 = q := ⟨_, rfl⟩
  have hpq : p ≤ q := by omega
  rw [hp, hq]
  have e1 : (double.leastPlace + (p : Int) - min (double.leastPlace + (p : Int)) (double.leastPlace + (q : Int))).toNat = 0 := by omega
  have e2 : (double.leastPlace + (q : Int) - min (double.leastPlace + (p : Int)) (double.leastPlace + (q : Int))).toNat = q - p := by omega
  rw [e1, e2]
  have hle : (2 ^ 52 + x % 2 ^ 52) ≤ (2 ^ 52 + y % 2 ^ 52) * 2 ^ (q - p) := by
    rcases Nat.lt_or_ge p q with c | c
    · have h1 : 2 ^ 1 ≤ 2 ^ (q - p) := Nat.pow_le_pow_right (by decide) (by omega)
      have h2 : (2 ^ 52 + y % 2 ^ 52) * 2 ^ 1 ≤ (2 ^ 52 + y % 2 ^ 52) * 2 ^ (q - p) := Nat.mul_le_mul_left _ h1
      omega
    · rw [show q - p = 0 by omega, Nat.pow_zero, Nat.mul_one]
      omega
  show some (compare (signed false _ _) (signed false _ _)) = _ ∨ _
  simp only [signed, Nat.shiftLeft_eq, Nat.pow_zero, Nat.mul_one]
  have hle' : ((2 ^ 52 + x % 2 ^ 52 : Nat) : Int) ≤ (((2 ^ 52 + y % 2 ^ 52) * 2 ^ (q - p) : Nat) : Int) := by exact_mod_cast hle
  generalize ((2 ^ 52 + x % 2 ^ 52 : Nat) : Int) = A at hle' ⊢
  generalize (((2 ^ 52 + y % 2 ^ 52) * 2 ^ (q - p) : Nat) : Int) = B at hle' ⊢
  rcases Int.lt_or_eq_of_le hle' with c | c
  · exact .inl (by simp [compare, compareOfLessAndEq, c])
  · exact .inr (by simp [compare, compareOfLessAndEq, c])
end Go.Proofs.YtbifmcadllilhaaGreat.Pn
