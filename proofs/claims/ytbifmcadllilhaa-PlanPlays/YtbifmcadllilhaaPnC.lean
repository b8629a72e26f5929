import Derived.Test.YtbifmcadllilhaaPnA
namespace Go.Proofs.Ytbifmcadllilhaa.Pn
open Go.RowKit Ieee
set_option linter.unusedVariables false
theorem cut0 (n : Nat) : Toward.even.cut false n 0 = n := by
  unfold Toward.cut
  simp [Nat.mod_one]
theorem rung_of (m : Nat) (h0 : 0 < m) (h1 : m < 2 ^ 41) : ∃ r, double.nearest false m 0 = double.word false r ∧ 2 ^ 52 ≤ r ∧ r < 2047 * 2 ^ 52 := by
  have hl : m.log2 < 41 := (Nat.log2_lt (by omega)).2 h1
  have hm := Nat.lt_log2_self (n := m)
  have e1 : max ((0 : Int) + (m.log2 : Int) - (double.fractionBits : Int)) double.leastPlace = (m.log2 : Int) - 52 := by
    have : double.leastPlace = -1074 := rfl
    have h2 : double.fractionBits = 52 := rfl
    rw [this, h2]
    omega
  have e2 : ((m.log2 : Int) - 52 - 0).toNat = 0 := by omega
  have e3 : ((0 : Int) - ((m.log2 : Int) - 52)).toNat = 52 - m.log2 := by omega
  have e4 : ((m.log2 : Int) - 52 - double.leastPlace).toNat = 1022 + m.log2 := by
    have : double.leastPlace = -1074 := rfl
    rw [this]
    omega
  have hb : double.binade = 2 ^ 52 := rfl
  have hi : double.infRung = 2047 * 2 ^ 52 := rfl
  have hk : m <<< (52 - m.log2) < 2 ^ 53 := by
    rw [Nat.shiftLeft_eq]
    have : m * 2 ^ (52 - m.log2) < 2 ^ (m.log2 + 1) * 2 ^ (52 - m.log2) := Nat.mul_lt_mul_of_pos_right hm (Nat.pow_pos (by decide))
    rw [← Nat.pow_add] at this
    have e : m.log2 + 1 + (52 - m.log2) = 53 := by omega
    rw [e] at this
    exact this
  generalize hK : m <<< (52 - m.log2) = K at hk
  refine ⟨(1022 + m.log2) * 2 ^ 52 + K, ?_, ?_, ?_⟩
  · unfold Format.nearest
    rw [if_neg (by omega)]
    simp only [e1, e2, e3, e4, hb, hi, cut0, hK]
    congr 1
    rw [Nat.min_eq_left]
    omega
  · omega
  · omega
theorem read_word (neg : Bool) (r : Nat) (h : r ≤ 2047 * 2 ^ 52) : (double.read (double.word neg r)).isNaN = false := by
  have hs : double.signWeight = 2 ^ 63 := rfl
  have hb : double.binade = 2 ^ 52 := rfl
  have hi : double.infRung = 2047 * 2 ^ 52 := rfl
  have hr : double.word neg r % double.signWeight = r := by
    unfold Format.word
    rw [hs]
    cases neg <;> simp <;> omega
  unfold Format.read
  simp only [hr, hb, hi]
  split
  · rfl
  · split
    · rfl
    · split
      · rfl
      · omega
theorem read_num (r : Nat) (h : r < 2047 * 2 ^ 52) : ∃ s m p, double.read (double.word false r) = .number s m p ∧ (2 ^ 52 ≤ r → 0 < m) := by
  have hs : double.signWeight = 2 ^ 63 := rfl
  have hb : double.binade = 2 ^ 52 := rfl
  have hi : double.infRung = 2047 * 2 ^ 52 := rfl
  have hr : double.word false r % double.signWeight = r := by
    unfold Format.word
    rw [hs]
    simp
    omega
  unfold Format.read
  simp only [hr, hb, hi]
  split
  · exact ⟨_, _, _, rfl, fun h => by omega⟩
  · exact ⟨_, _, _, rfl, fun _ => by omega⟩
theorem order_self {d : Datum} (h : d.isNaN = false) : d.order d = some .eq := by
  cases d with
  | number s m p => simp [Datum.order, compare, compareOfLessAndEq]
  | infinity s => simp [Datum.order, compare, compareOfLessAndEq]
  | nan s t => cases h
theorem write_ok (s : Bool) (m : Nat) (p : Int) : (double.read (double.write (.number s m p))).isNaN = false := by
  show (double.read (double.nearest s m p)).isNaN = false
  unfold Format.nearest
  split
  · exact read_word _ 0 (by omega)
  · exact read_word _ _ (Nat.min_le_right _ double.infRung)
theorem of_int (a : Int) (h : 0 ≤ a) (h1 : a < 2 ^ 41) : ∃ r, floatOfInt .f64 a = double.word false r ∧ r < 2047 * 2 ^ 52 ∧ (0 < a → 2 ^ 52 ≤ r) := by
  have e : floatOfInt .f64 a = double.nearest false a.natAbs 0 := by
    show double.write (.number (decide (a < 0)) a.natAbs 0) = _
    have : decide (a < 0) = false := by simpa using h
    rw [this]
    rfl
  rw [e]
  by_cases h0 : a = 0
  · subst h0
    exact ⟨0, rfl, by omega, fun h => by omega⟩
  · obtain ⟨r, h2, h3, h4⟩ := rung_of a.natAbs (by omega) (by omega)
    exact ⟨r, h2, h4, fun _ => h3⟩
/-- a quotient of whole numbers is a number -/
theorem quo_ok (a b : Int) (ha : 0 ≤ a) (ha1 : a < 2 ^ 41) (hb : 0 < b) (hb1 : b < 2 ^ 41) : ∃ r, floatBits .quo .f64 (floatOfInt .f64 a) (floatOfInt .f64 b) = some r ∧ FloatKind.f64.format.order r r = some .eq := by
  obtain ⟨ra, ea, la, _⟩ := of_int a ha ha1
  obtain ⟨rb, eb, lb, gb⟩ := of_int b (by omega) hb1
  obtain ⟨s, m, p, e1, _⟩ := read_num ra la
  obtain ⟨t, n, q, e2, hn⟩ := read_num rb lb
  have hn0 : n ≠ 0 := by have := hn (gb hb); omega
  obtain ⟨s', m', p', e3⟩ : ∃ s' m' p', (Datum.number s m p).quotient 54 (.number t n q) = some (.number s' m' p') := by
    simp only [Datum.quotient, if_neg hn0]
    exact ⟨_, _, _, rfl⟩
  refine ⟨double.write (.number s' m' p'), ?_, order_self (write_ok _ _ _)⟩
  show double.div _ _ = some _
  unfold Format.div
  rw [ea, eb, e1, e2]
  show Option.map double.write ((Datum.number s m p).quotient 54 (.number t n q)) = _
  rw [e3]
  rfl
end Go.Proofs.Ytbifmcadllilhaa.Pn
namespace Go.Proofs.Ytbifmcadllilhaa.Pn
open Go.RowKit
set_option linter.unusedVariables false
/-- the greatest, the least -/
def isMx (o : List Int) (m : Int) : Prop := m ∈ o ∧ ∀ x ∈ o, x ≤ m
def isMn (o : List Int) (m : Int) : Prop := m ∈ o ∧ ∀ x ∈ o, m ≤ x
theorem isMx.one (x : Int) : isMx [x] x := ⟨by simp, fun y hy => by simp at hy; omega⟩
theorem isMn.one (x : Int) : isMn [x] x := ⟨by simp, fun y hy => by simp at hy; omega⟩
theorem isMx.snoc {o : List Int} {m : Int} (h : isMx o m) (y : Int) : isMx (o ++ [y]) (max m y) := by
  refine ⟨?_, fun x hx => ?_⟩
  · rcases Int.le_total m y with h1 | h1
    · rw [Int.max_eq_right h1]; simp
    · rw [Int.max_eq_left h1]; exact List.mem_append.2 (.inl h.1)
  · rcases List.mem_append.1 hx with hx | hx
    · have := h.2 x hx; omega
    · simp at hx; omega
theorem isMn.snoc {o : List Int} {m : Int} (h : isMn o m) (y : Int) : isMn (o ++ [y]) (min m y) := by
  refine ⟨?_, fun x hx => ?_⟩
  · rcases Int.le_total m y with h1 | h1
    · rw [Int.min_eq_left h1]; exact List.mem_append.2 (.inl h.1)
    · rw [Int.min_eq_right h1]; simp
  · rcases List.mem_append.1 hx with hx | hx
    · have := h.2 x hx; omega
    · simp at hx; omega
theorem take_more {o : List Int} {i : Nat} {y : Int} (hy : o[i]? = some y) : o.take (i + 1) = o.take i ++ [y] := by rw [List.take_add_one, hy]; rfl
/-- what Max, Min answer -/
def MxR (o : List Int) (e : Ending) : Prop := ∃ m, e = .returned (.int .i64 m) ∧ isMx o m
def MnR (o : List Int) (e : Ending) : Prop := ∃ m, e = .returned (.int .i64 m) ∧ isMn o m
set_option maxRecDepth 100000 in
set_option maxHeartbeats 1000000 in
theorem max29 (w : World) (u : Value) (o : List Int) (h : Ns w u o) (h1 : 1 ≤ o.length) (h2 : o.length ≤ 16) : Calls Try.prog 29 #[u] w fun e w' => MxR o e ∧ w' = w := by
  obtain ⟨a, cap, rfl, _, _⟩ := id h
  obtain ⟨N, eN⟩ : ∃ N, o.length = N := ⟨_, rfl⟩
  obtain ⟨x0, hx0⟩ : ∃ x, o[0]? = some x := ⟨_, List.getElem?_eq_getElem (by omega)⟩
  obtain ⟨b, rfl, c0⟩ := h.at_ hx0
  have c0' : w.cell? b = some (.int .i64 x0) := by simpa [Addr.add] using c0
  have HN := hide (And.intro h (And.intro eN hx0))
  rw [eN] at h1 h2 ⊢
  have hNI : (N : Int) ≤ 16 := by omega
  have hN1 : (1 : Int) ≤ (N : Int) := by omega
  have hN0 : (0 : Int) < (N : Int) := by omega
  have dN : decide ((N : Int) < 1) = false := by simp; omega
  clear h eN hx0
  go_enter Try.func29, Try.ntmps29
  go_wp2
  clear c0 c0'
  go_loopw [3, 4] (fun mv iv wr => ∃ (i : Nat) (m : Int), iv = .int .i64 (i : Int) ∧ mv = .int .i64 m ∧ 1 ≤ i ∧ i ≤ N ∧ wr = w ∧ Hid (isMx (o.take i) m)) (fun _ iv _ => N - (intOf iv).toNat)
  case atStart => exact ⟨1, x0, rfl, rfl, Nat.le_refl _, h1, rfl, hide (by rw [take_more (i := 0) HN.out.2.2]; exact isMx.one x0)⟩
  case round =>
    obtain ⟨i, m, rfl, rfl, hi1, hi, hw, hI⟩ := hrel
    obtain rfl := hw
    have hi0 : (0 : Int) ≤ (i : Int) := by omega
    by_cases hlt : i < N
    · have hltI : (i : Int) < (N : Int) := by omega
      obtain ⟨y, hy⟩ : ∃ y, o[i]? = some y := ⟨_, List.getElem?_eq_getElem (by rw [HN.out.2.1]; exact hlt)⟩
      obtain ⟨b', e', hc⟩ := HN.out.1.at_ hy
      simp only [Option.some.injEq] at e'
      subst e'
      have HY := hide hy
      have eti : (i : Int).toNat = i := by omega
      clear hy
      go_wp2
      refine ⟨⟨i + 1, max m y, by go_num, by congr 1; split <;> omega, by omega, by omega, trivial, hide ?_⟩, by simp [intOf]; omega⟩
      rw [take_more HY.out]
      exact hI.out.snoc y
    · have hge : ¬ (i : Int) < (N : Int) := by omega
      have HE : Hid (isMx o m) := hide (by
        have h := hI.out
        rw [List.take_of_length_le (by have := HN.out.2.1; omega)] at h
        exact h)
      go_wp2
      go_ret
      exact ⟨⟨_, rfl, HE.out⟩, rfl⟩
set_option maxRecDepth 100000 in
set_option maxHeartbeats 1000000 in
theorem min54 (w : World) (u : Value) (o : List Int) (h : Ns w u o) (h1 : 1 ≤ o.length) (h2 : o.length ≤ 16) : Calls Try.prog 54 #[u] w fun e w' => MnR o e ∧ w' = w := by
  obtain ⟨a, cap, rfl, _, _⟩ := id h
  obtain ⟨N, eN⟩ : ∃ N, o.length = N := ⟨_, rfl⟩
  obtain ⟨x0, hx0⟩ : ∃ x, o[0]? = some x := ⟨_, List.getElem?_eq_getElem (by omega)⟩
  obtain ⟨b, rfl, c0⟩ := h.at_ hx0
  have c0' : w.cell? b = some (.int .i64 x0) := by simpa [Addr.add] using c0
  have HN := hide (And.intro h (And.intro eN hx0))
  rw [eN] at h1 h2 ⊢
  have hNI : (N : Int) ≤ 16 := by omega
  have hN1 : (1 : Int) ≤ (N : Int) := by omega
  have hN0 : (0 : Int) < (N : Int) := by omega
  have dN : decide ((N : Int) < 1) = false := by simp; omega
  clear h eN hx0
  go_enter Try.func54, Try.ntmps54
  go_wp2
  clear c0 c0'
  go_loopw [3, 4] (fun mv iv wr => ∃ (i : Nat) (m : Int), iv = .int .i64 (i : Int) ∧ mv = .int .i64 m ∧ 1 ≤ i ∧ i ≤ N ∧ wr = w ∧ Hid (isMn (o.take i) m)) (fun _ iv _ => N - (intOf iv).toNat)
  case atStart => exact ⟨1, x0, rfl, rfl, Nat.le_refl _, h1, rfl, hide (by rw [take_more (i := 0) HN.out.2.2]; exact isMn.one x0)⟩
  case round =>
    obtain ⟨i, m, rfl, rfl, hi1, hi, hw, hI⟩ := hrel
    obtain rfl := hw
    have hi0 : (0 : Int) ≤ (i : Int) := by omega
    by_cases hlt : i < N
    · have hltI : (i : Int) < (N : Int) := by omega
      obtain ⟨y, hy⟩ : ∃ y, o[i]? = some y := ⟨_, List.getElem?_eq_getElem (by rw [HN.out.2.1]; exact hlt)⟩
      obtain ⟨b', e', hc⟩ := HN.out.1.at_ hy
      simp only [Option.some.injEq] at e'
      subst e'
      have HY := hide hy
      have eti : (i : Int).toNat = i := by omega
      clear hy
      go_wp2
      refine ⟨⟨i + 1, min m y, by go_num, by congr 1; split <;> omega, by omega, by omega, trivial, hide ?_⟩, by simp [intOf]; omega⟩
      rw [take_more HY.out]
      exact hI.out.snoc y
    · have hge : ¬ (i : Int) < (N : Int) := by omega
      have HE : Hid (isMn o m) := hide (by
        have h := hI.out
        rw [List.take_of_length_le (by have := HN.out.2.1; omega)] at h
        exact h)
      go_wp2
      go_ret
      exact ⟨⟨_, rfl, HE.out⟩, rfl⟩
end Go.Proofs.Ytbifmcadllilhaa.Pn
namespace Go.Proofs.Ytbifmcadllilhaa.Pn
open Go.RowKit
set_option linter.unusedVariables false
/-- loads that may be -/
def MBL (o : List Int) : Prop := 1 ≤ o.length ∧ o.length ≤ 16 ∧ ∀ x ∈ o, 0 ≤ x ∧ x ≤ 1073741824
set_option maxHeartbeats 1000000 in
theorem hosts41 (w : World) (n : Int) : Calls Try.prog 41 #[.int .i64 n] w fun e w' => Ans (1 ≤ n ∧ n ≤ 16) e ∧ w' = w := by
  by_cases h1 : 1 ≤ n
  · have d1 : decide (n ≥ 1) = true := by simpa using h1
    have H := hide h1
    clear h1
    go_enter Try.func41, Try.ntmps41
    go_wp2
    go_ret
    exact ⟨⟨_, rfl, by have := H.out; simp [this]⟩, rfl⟩
  · have d1 : decide (n ≥ 1) = false := by simpa using h1
    have H := hide h1
    clear h1
    go_enter Try.func41, Try.ntmps41
    go_wp2
    go_ret
    exact ⟨⟨_, rfl, by simp; have := H.out; omega⟩, rfl⟩
set_option maxRecDepth 100000 in
set_option maxHeartbeats 1000000 in
theorem mayBe27 (w : World) (u : Value) (o : List Int) (h : Ns w u o) (hN : o.length ≤ 140737488351232) : Calls Try.prog 27 #[u] w fun e w' => Ans (MBL o) e ∧ w' = w := by
  obtain ⟨a, cap, rfl, _, _⟩ := id h
  obtain ⟨N, eN⟩ : ∃ N, o.length = N := ⟨_, rfl⟩
  have HO := hosts41 w (N : Int)
  have HN := hide (And.intro h eN)
  rw [eN] at hN ⊢
  clear h eN
  go_enter Try.func27, Try.ntmps27
  go_wp2_with fail
  refine HO.mono ?_; rintro e w1 ⟨⟨b1, rfl, hb1⟩, hw⟩
  obtain rfl := hw
  have HB := hide hb1
  clear HO hb1
  cases b1 with
  | false =>
    go_wp2
    go_ret
    refine ⟨⟨false, rfl, ?_⟩, rfl⟩
    simp
    rintro ⟨q1, q2, _⟩
    have := HB.out.2 ⟨by have := HN.out.2; omega, by have := HN.out.2; omega⟩
    simp at this
  | true =>
  have hr : 1 ≤ o.length ∧ o.length ≤ 16 := by
    have := HB.out.1 (by simp)
    have := HN.out.2
    omega
  have MI := min54 w1 (.slice a N cap) o (by have q := HN.out.1; rw [HN.out.2] at q; exact q) hr.1 hr.2
  have MA := max29 w1 (.slice a N cap) o (by have q := HN.out.1; rw [HN.out.2] at q; exact q) hr.1 hr.2
  have HR := hide hr
  clear hr
  go_wp2_with fail
  refine MI.mono ?_; rintro e w2 ⟨⟨m, rfl, hm⟩, hw⟩
  obtain rfl := hw
  have HM := hide hm
  clear MI hm
  by_cases h0 : 0 ≤ m
  · have d0 : decide (m ≥ 0) = true := by simpa using h0
    have H0 := hide h0
    clear h0
    go_wp2_with fail
    refine MA.mono ?_; rintro e w3 ⟨⟨M, rfl, hM⟩, hw⟩
    obtain rfl := hw
    have HX := hide hM
    clear MA hM
    go_wp2
    go_ret
    refine ⟨⟨_, rfl, ?_⟩, rfl⟩
    simp only [decide_eq_true_eq]
    refine ⟨fun q => ⟨HR.out.1, HR.out.2, fun x hx => ?_⟩, fun q => (q.2.2 M HX.out.1).2⟩
    have := HM.out.2 x hx
    have := HX.out.2 x hx
    have := H0.out
    omega
  · have d0 : decide (m ≥ 0) = false := by simpa using h0
    have H0 := hide h0
    clear h0 MA
    go_wp2
    go_ret
    refine ⟨⟨false, rfl, ?_⟩, rfl⟩
    simp
    intro q
    have q1 := (q.2.2 m HM.out.1).1
    have := H0.out
    omega
theorem sum_snoc (o : List Int) (y : Int) : (o ++ [y]).sum = o.sum + y := by simp
theorem sum_bound {o : List Int} : ∀ (h : ∀ x ∈ o, 0 ≤ x ∧ x ≤ 1073741824), 0 ≤ o.sum ∧ o.sum ≤ (o.length : Int) * 1073741824 := by
  induction o with
  | nil => intro _; simp
  | cons x o ih =>
    intro h
    have h1 := h x (by simp)
    have h2 := ih (fun y hy => h y (by simp [hy]))
    simp only [List.sum_cons, List.length_cons]
    omega
theorem sum_take {o : List Int} (h : ∀ x ∈ o, 0 ≤ x ∧ x ≤ 1073741824) (h2 : o.length ≤ 16) (i : Nat) : 0 ≤ (o.take i).sum ∧ (o.take i).sum ≤ 17179869184 := by
  have := sum_bound (o := o.take i) (fun x hx => h x (List.mem_of_mem_take hx))
  rw [List.length_take] at this
  omega
set_option maxRecDepth 100000 in
set_option maxHeartbeats 1000000 in
theorem total28 (w : World) (u : Value) (o : List Int) (h : Ns w u o) (hm : MBL o) : Calls Try.prog 28 #[u] w fun e w' => e = .returned (.int .i64 o.sum) ∧ w' = w := by
  obtain ⟨a, cap, rfl, _, _⟩ := id h
  obtain ⟨N, eN⟩ : ∃ N, o.length = N := ⟨_, rfl⟩
  have HN := hide (And.intro h (And.intro eN hm))
  have hNI : (N : Int) ≤ 16 := by have := hm.2.1; omega
  rw [eN]
  clear h eN hm
  go_enter Try.func28, Try.ntmps28
  go_wp2
  go_loopw [3, 8] (fun sv iv wr => ∃ (i : Nat) (s : Int), iv = .int .i64 (i : Int) ∧ sv = .int .i64 s ∧ i ≤ N ∧ wr = w ∧ Hid (s = (o.take i).sum)) (fun _ iv _ => N - (intOf iv).toNat)
  case atStart => exact ⟨0, 0, rfl, rfl, Nat.zero_le _, rfl, hide (by simp)⟩
  case round =>
    obtain ⟨i, s, rfl, rfl, hi, hw, hI⟩ := hrel
    obtain rfl := hw
    have hi0 : (0 : Int) ≤ (i : Int) := by omega
    by_cases hlt : i < N
    · have hltI : (i : Int) < (N : Int) := by omega
      obtain ⟨y, hy⟩ : ∃ y, o[i]? = some y := ⟨_, List.getElem?_eq_getElem (by rw [HN.out.2.1]; exact hlt)⟩
      obtain ⟨b', e', hc⟩ := HN.out.1.at_ hy
      subst e'
      have hs := sum_take HN.out.2.2.2.2 HN.out.2.2.2.1 i
      have hs2 := sum_take HN.out.2.2.2.2 HN.out.2.2.2.1 (i + 1)
      rw [take_more hy, sum_snoc] at hs2
      rw [← hI.out] at hs hs2
      have ew : IntKind.i64.wrap (s + y) = s + y := by rw [IntKind.wrap_i64]; omega
      have ew2 : wrap64 (s + y) = s + y := by unfold wrap64; omega
      have HY := hide hy
      have eti : (i : Int).toNat = i := by omega
      clear hy hs hs2
      go_wp2
      refine ⟨⟨i + 1, s + y, by go_num, by first | rfl | (congr 1), by omega, trivial, hide ?_⟩, by simp [intOf]; omega⟩
      rw [take_more HY.out, sum_snoc, hI.out]
    · have hge : ¬ (i : Int) < (N : Int) := by omega
      have HE : Hid (s = o.sum) := hide (by
        have h := hI.out
        rw [List.take_of_length_le (by have := HN.out.2.1; omega)] at h
        exact h)
      go_wp2
      go_ret
      have q := HE.out
      exact ⟨by first | exact q | (simp [q]), rfl⟩
/-- what Total answers -/
def TtR (o : List Int) (e : Ending) : Prop := ∃ t, e = .returned (.int .i64 t) ∧ (MBL o ∧ t = o.sum ∨ ¬ MBL o ∧ t = -1)
set_option maxRecDepth 100000 in
set_option maxHeartbeats 2000000 in
theorem total30 (w : World) (u : Value) (o : List Int) (h : Ns w u o) (hN : o.length ≤ 140737488351232) : Calls Try.prog 30 #[u] w fun e w' => TtR o e ∧ w' = w := by
  obtain ⟨a, cap, rfl, _, _⟩ := id h
  obtain ⟨N, eN⟩ : ∃ N, o.length = N := ⟨_, rfl⟩
  have HN := hide (And.intro h eN)
  rw [eN] at hN ⊢
  have hNI : (N : Int) ≤ 140737488351232 := by omega
  clear h eN
  by_cases h1 : N < 1
  · have d1 : decide ((N : Int) < 1) = true := by simp; omega
    have H1 := hide h1
    clear h1
    go_enter Try.func30, Try.ntmps30
    go_wp2
    go_ret
    exact ⟨⟨_, rfl, .inr ⟨fun q => by have := q.1; have := HN.out.2; have := H1.out; omega, rfl⟩⟩, rfl⟩
  have d1 : decide ((N : Int) < 1) = false := by simp; omega
  by_cases h2 : 16 < N
  · have d2 : decide ((N : Int) > 16) = true := by simp; omega
    have H1 := hide h2
    clear h1 h2
    go_enter Try.func30, Try.ntmps30
    go_wp2
    go_ret
    exact ⟨⟨_, rfl, .inr ⟨fun q => by have := q.2.1; have := HN.out.2; have := H1.out; omega, rfl⟩⟩, rfl⟩
  have d2 : decide ((N : Int) > 16) = false := by simp; omega
  have HR : Hid (1 ≤ o.length ∧ o.length ≤ 16) := hide (by have := HN.out.2; omega)
  have hN16 : (N : Int) ≤ 16 := by omega
  clear h1 h2 hNI hN
  go_enter Try.func30, Try.ntmps30
  go_wp2
  go_loopw [3, 4] (fun sv iv wr => ∃ (i : Nat) (s : Int), iv = .int .i64 (i : Int) ∧ sv = .int .i64 s ∧ i ≤ N ∧ wr = w ∧ Hid (s = (o.take i).sum ∧ ∀ x ∈ o.take i, 0 ≤ x ∧ x ≤ 1073741824)) (fun _ iv _ => N - (intOf iv).toNat)
  case atStart => exact ⟨0, 0, rfl, rfl, Nat.zero_le _, rfl, hide ⟨by simp, fun x hx => by simp at hx⟩⟩
  case round =>
    obtain ⟨i, s, rfl, rfl, hi, hw, hI⟩ := hrel
    obtain rfl := hw
    have hi0 : (0 : Int) ≤ (i : Int) := by omega
    by_cases hlt : i < N
    · have hltI : (i : Int) < (N : Int) := by omega
      obtain ⟨y, hy⟩ : ∃ y, o[i]? = some y := ⟨_, List.getElem?_eq_getElem (by rw [HN.out.2]; exact hlt)⟩
      obtain ⟨b', e', hc⟩ := HN.out.1.at_ hy
      subst e'
      have HY := hide hy
      have eti : (i : Int).toNat = i := by omega
      have bad : ¬ (0 ≤ y ∧ y ≤ 1073741824) → ¬ MBL o := fun q r => q (r.2.2 y (List.mem_of_getElem? hy))
      have HBad := hide bad
      clear hy bad
      by_cases hy0 : y < 0
      · have e0 : decide (y < 0) = true := by simpa using hy0
        have H0 := hide hy0
        clear hy0
        go_wp2
        go_ret
        exact ⟨⟨_, rfl, .inr ⟨HBad.out (by have := H0.out; omega), rfl⟩⟩, rfl⟩
      have e0 : decide (y < 0) = false := by simpa using hy0
      by_cases hy1 : y > 1073741824
      · have e1 : decide (y > 1073741824) = true := by simpa using hy1
        have H0 := hide hy1
        clear hy0 hy1
        go_wp2
        go_ret
        exact ⟨⟨_, rfl, .inr ⟨HBad.out (by have := H0.out; omega), rfl⟩⟩, rfl⟩
      have e1 : decide (y > 1073741824) = false := by simpa using hy1
      have HG : Hid (0 ≤ y ∧ y ≤ 1073741824) := hide (by omega)
      have hall : ∀ x ∈ o.take (i + 1), 0 ≤ x ∧ x ≤ 1073741824 := by
        rw [take_more HY.out]
        intro x hx
        rcases List.mem_append.1 hx with hx | hx
        · exact hI.out.2 x hx
        · simp at hx; rw [hx]; exact HG.out
      have hb := sum_bound hall
      rw [List.length_take, take_more HY.out, sum_snoc, ← hI.out.1] at hb
      have hb2 := sum_bound hI.out.2
      rw [List.length_take, ← hI.out.1] at hb2
      have hlo := HR.out
      have ew : IntKind.i64.wrap (s + y) = s + y := by rw [IntKind.wrap_i64]; omega
      have ew2 : wrap64 (s + y) = s + y := by unfold wrap64; omega
      have HA := hide hall
      clear hy0 hy1 hall hb hb2 hlo
      go_wp2
      refine ⟨⟨i + 1, s + y, by go_num, by first | rfl | (congr 1), by omega, trivial, hide ⟨?_, HA.out⟩⟩, by simp [intOf]; omega⟩
      rw [take_more HY.out, sum_snoc, hI.out.1]
    · have hge : ¬ (i : Int) < (N : Int) := by omega
      have HE : Hid (s = o.sum ∧ MBL o) := hide (by
        have h := hI.out
        rw [List.take_of_length_le (by have := HN.out.2; omega)] at h
        exact ⟨h.1, HR.out.1, HR.out.2, h.2⟩)
      go_wp2
      go_ret
      exact ⟨⟨_, rfl, .inl ⟨HE.out.2, HE.out.1⟩⟩, rfl⟩
end Go.Proofs.Ytbifmcadllilhaa.Pn
