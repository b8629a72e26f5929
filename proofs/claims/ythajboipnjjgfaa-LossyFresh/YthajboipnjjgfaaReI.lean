import Derived.Test.YthajboipnjjgfaaReH
namespace Go.Proofs.Ythajboipnjjgfaa.Ly
open Go.RowKit Go.Maps
set_option linter.unusedVariables false
set_option linter.unusedSimpArgs false

/-- what Drop takes, by its place in the history -/
def dpH (xs : List Int) (H : List Hg) (j : Nat) : Bool := xs.any fun x => (pls 0 H)[x.toNat]? == some j

theorem Mk.livle {P : Nat → Bool} : ∀ {H H' : List Hg}, Mk P H H' → (liv H').length ≤ (liv H).length := by
  intro H
  induction H generalizing P with
  | nil =>
    intro H' h
    have : H' = [] := List.eq_nil_of_length_eq_zero (by simpa using h.len)
    subst this
    exact Nat.le_refl _
  | cons x r ih =>
    intro H' h
    match H', h with
    | [], h => have := h.len; simp at this
    | x' :: r', h =>
      obtain ⟨rfl, ht⟩ := h.tail
      have := ih ht
      unfold liv at this ⊢
      cases hg : x.gone <;> cases hp : P 0 <;> simp [hg, hp] <;> omega
theorem wrap64_of_lt (x : Int) (h0 : -9223372036854775808 ≤ x) (h1 : x < 9223372036854775808) : wrap64 x = x := by
  unfold wrap64
  omega

section
variable {B p : Nat} {w w' : World} {there : Bool} {room : Int} {bs : Nat → Bool} {v : Value} {c : Ct} {H : List Hg}

theorem refDrop_no (h : Rn B w p false room bs v c H) (u : Value) (ad : Option Addr) (n cap : Nat) (hu : u = .slice ad n cap) : Calls Try.prog 73 #[.pointer (some ⟨p, 0, none⟩), u] w fun e w' => e = .returned (.tuple #[.int .i64 0, .int .i64 1]) ∧ w' = w := by
  have c0 := h.c0
  subst hu
  go_enter Try.func73, Try.ntmps73
  go_wp2
  go_ret2
  exact ⟨rfl, rfl⟩

/-- what the document's Drop answers -/
def DrQ (B : Nat) (w : World) (p : Nat) (room : Int) (bs : Nat → Bool) (v : Value) (c : Ct) (H : List Hg) (xs : List Int) (e : Ending) (w' : World) : Prop :=
  (inAll xs (pls 0 H).length = false ∧ e = .returned (.tuple #[.int .i64 0, .int .i64 54]) ∧ Kp Nu w w') ∨
  (inAll xs (pls 0 H).length = true ∧ ∃ (q : Nat) (H' : List Hg), e = .returned (.tuple #[.int .i64 (q : Int), .int .i64 0]) ∧ q + (liv H').length = (liv H).length ∧ Mk (dpH xs H) H H' ∧ Rn B w' p true room bs v { c with x := c.x + (q : Int) } H' ∧ Fq p v w w' v)

set_option maxRecDepth 100000 in
set_option maxHeartbeats 2000000 in
theorem refDrop_any (h : Rn B w p true room bs v c H) (hH : (H.length : Int) ≤ 1599289640400) {w0 : World} (u : Value) (xs : List Int) (hr : RdI w0 u xs) (k0 : Kp Nu w0 w) (hB : w0.heap.size ≤ B) (hn : (xs.length : Int) ≤ 9223372036854775807) (hx0 : 0 ≤ c.x) (hx1 : c.x < 4611686018427387000) :
    Calls Try.prog 73 #[.pointer (some ⟨p, 0, none⟩), u] w (DrQ B w p room bs v c H xs) := by
  have mixed : Try.prog.follows .mixedOrders = true := by kernel_rfl
  have c0 := h.c0
  have PL := places_any h hH
  obtain ⟨ad, cap, hu⟩ := hr.slice
  obtain ⟨N, hN⟩ : ∃ N, xs.length = N := ⟨_, rfl⟩
  obtain ⟨M, hM⟩ : ∃ M, (pls 0 H).length = M := ⟨_, rfl⟩
  have HN := hide hN
  have HM := hide hM
  have HR := hide hr
  have HH := hide h
  have HHH := hide hH
  have HK0 := hide (And.intro k0 hB)
  have HX := hide (And.intro hx0 hx1)
  rw [hN] at hu hn
  rw [hM] at PL
  have hMb : (M : Int) ≤ 1599289640400 := by
    have h1 : (liv H).length ≤ H.length := List.length_filter_le _ _
    rw [← pls_length H 0] at h1
    omega
  subst hu
  clear h hN hM hr k0 hB hx0 hx1 hH
  go_enter Try.func73, Try.ntmps73
  go_wp2_with fail
  refine PL.mono ?_; rintro e w2 ⟨l, rfl, ho, hk2⟩
  obtain ⟨adl, capl, hl⟩ := own_slice ho
  subst hl
  have HO2 := hide ho
  have HK2 := hide hk2
  clear PL ho hk2 c0
  go_wp2_with fail
  go_loopw [7] (fun i wr => ∃ k : Nat, k ≤ N ∧ i = .int .i64 (k : Int) ∧ Hid (∀ x ∈ xs.take k, inL x M = true) ∧ wr = w2) (fun i _ => N - (intOf i).toNat)
  case atStart => exact ⟨0, by omega, rfl, by intro x hx; simp at hx, rfl⟩
  case round =>
    obtain ⟨k, hk, rfl, hA, hwr⟩ := hrel
    obtain rfl := hwr.symm
    clear hwr
    by_cases hlt : k < N
    · have hkL : k < xs.length := by rw [HN.out]; exact hlt
      obtain ⟨x, hx⟩ : ∃ x, xs[k]? = some x := ⟨_, List.getElem?_eq_getElem hkL⟩
      rcases HR.out with ⟨_, e⟩ | ⟨a, o, cap', e, hc⟩
      · subst e; simp at hkL
      have hcx := cell_below (hc k x hx) (Nat.le_refl _) (HK0.out.1.andNu HK2.out).toBelow
      simp only [Value.slice.injEq] at e
      obtain ⟨e1, e2, e3⟩ := e
      clear e2 e3
      subst e1
      have hltI : (k : Int) < (N : Int) := by omega
      have hk0 : (0 : Int) ≤ (k : Int) := by omega
      have HX2 := hide hx
      clear hc hx hkL
      by_cases h1 : x < 0
      · have HE : Hid (inAll xs (pls 0 H).length = false) := by
          show _ = _
          rw [inAll, List.all_eq_false]
          exact ⟨x, List.mem_of_getElem? HX2.out, by simp [inL]; omega⟩
        go_wp2
        go_ret2
        exact .inl ⟨HE.out, rfl, HK2.out⟩
      · by_cases h2 : x ≥ (M : Int)
        · have HE : Hid (inAll xs (pls 0 H).length = false) := by
            show _ = _
            rw [inAll, List.all_eq_false]
            refine ⟨x, List.mem_of_getElem? HX2.out, ?_⟩
            rw [HM.out]
            simp [inL]
            omega
          go_wp2
          go_ret2
          exact .inl ⟨HE.out, rfl, HK2.out⟩
        · have HA2 : Hid (∀ y ∈ xs.take (k + 1), inL y M = true) := by
            intro y hy
            rw [List.take_add_one, HX2.out] at hy
            rcases List.mem_append.1 hy with hy | hy
            · exact hA.out y hy
            · simp at hy; subst hy; simp [inL]; omega
          clear hA
          go_wp2
          exact ⟨⟨k + 1, by omega, by go_num, HA2, trivial⟩, by simp [intOf]; omega⟩
    · have hge : ¬ (k : Int) < (N : Int) := by omega
      have eX : xs.take k = xs := List.take_of_length_le (by rw [HN.out]; omega)
      rw [eX] at hA
      have HA := hide hA.out
      clear eX hA hlt hk
      go_wp2_with fail
      go_loopw [8] (fun i wr' => ∃ (k : Nat) (Hc : List Hg), k ≤ N ∧ i = .int .i64 (k : Int) ∧ Hid (Rn B wr' p true room bs v c Hc ∧ Mk (dpH (xs.take k) H) H Hc ∧ Fq p v w2 wr' v)) (fun i _ => N - (intOf i).toNat)
      case atStart => exact ⟨0, H, by omega, rfl, ⟨HH.out.nu HK2.out, (Mk.refl H).congr (fun j y hy hg => by simp [dpH]), Fq.refl _ _ _⟩⟩
      case round =>
        obtain ⟨k, Hc, hk, rfl, hI⟩ := hrel
        have hR := hI.out.1
        by_cases hlt : k < N
        · have hkL : k < xs.length := by rw [HN.out]; exact hlt
          obtain ⟨x, hx⟩ : ∃ x, xs[k]? = some x := ⟨_, List.getElem?_eq_getElem hkL⟩
          have hin : inL x M = true := HA.out x (List.mem_of_getElem? hx)
          have hxx : 0 ≤ x ∧ x < (M : Int) := by simpa [inL] using hin
          obtain ⟨hx0', hx1'⟩ := hxx
          have hxM : x.toNat < (pls 0 H).length := by rw [HM.out]; omega
          obtain ⟨j, hj⟩ : ∃ j, (pls 0 H)[x.toNat]? = some j := ⟨_, List.getElem?_eq_getElem hxM⟩
          obtain ⟨_, _, g, hg, hgo⟩ := pls_at H 0 x.toNat j hj
          rw [Nat.sub_zero] at hg
          have hjl : j < H.length := (List.getElem?_eq_some_iff.1 hg).1
          have hlc : Hc.length = H.length := hI.out.2.1.len
          obtain ⟨r, capr, hv, _, _, _, _⟩ := hrow_at hR.own (hI.out.2.1.at' j g hg)
          have hv2 := hv
          rw [hlc] at hv2
          obtain ⟨R1, k1, fr⟩ := hR.mark (j := j) (by rw [hlc]; exact hjl) hv
          have kall : Kp Nu w0 wr := (HK0.out.1.andNu HK2.out).trans hI.out.2.2.kp (fun i hi e => by
            have := (HH.out.low i e)
            have := HK0.out.2
            omega)
          have HS : Hid (∀ W, Kp Nu wr W → W.cell? ⟨p, 2, none⟩ = some (.slice (some ⟨r, 0, none⟩) H.length capr)) := fun W kw => by
            rw [← hv2]
            exact (hR.nu kw).c2
          rcases HR.out with ⟨_, e⟩ | ⟨a, o, cap', e, hc⟩
          · subst e; simp at hkL
          have hcx := cell_below (hc k x hx) (Nat.le_refl _) kall.toBelow
          simp only [Value.slice.injEq] at e
          obtain ⟨e1, e2, e3⟩ := e
          clear e2 e3
          subst e1
          obtain ⟨r2, cap2, hw2, y0⟩ := int_at (own_keep HO2.out (fun g hg' => hI.out.2.2.kp.block g (own_lt HO2.out hg') (by
            obtain ⟨cu, hcu⟩ := own_obj HO2.out hg'
            rintro (e | e)
            · subst e
              obtain ⟨cu', hb, _⟩ := (HH.out.nu HK2.out).blk
              rw [hb] at hcu; cases hcu
            · obtain ⟨cu', hb⟩ := own_obj (HH.out.nu HK2.out).own e.symm
              rw [hb] at hcu; cases hcu))) hj
          simp only [Value.slice.injEq] at hw2
          obtain ⟨e1, e2, e3⟩ := hw2
          clear e2 e3
          subst e1
          have hltI : (k : Int) < (N : Int) := by omega
          have hk0 : (0 : Int) ≤ (k : Int) := by omega
          have hjI : (j : Int) < (H.length : Int) := by omega
          have hj0 : (0 : Int) ≤ (j : Int) := by omega
          have cp := HS.out wr (Kp.refl _ _)
          have ch : ∃ z, wr.cell? ⟨r, j * 4 + 3, none⟩ = some z := by
            obtain ⟨_, _, _, _, _, _, z3⟩ := hrow_at hR.own (hI.out.2.1.at' j g hg)
            rename_i q1 q2 hq _ _ _
            rw [hv] at hq
            simp only [Value.slice.injEq, Option.some.injEq, Addr.mk.injEq, and_true] at hq
            obtain ⟨hq, _⟩ := hq
            subst hq
            exact ⟨_, z3⟩
          obtain ⟨z, ch⟩ := ch
          have HF : Hid (Rn B (wr.setCell ⟨r, j * 4 + 3, none⟩ (.bool true)).drew p true room bs v c (goneAt Hc j) ∧ Mk (dpH (xs.take (k + 1)) H) H (goneAt Hc j) ∧ Fq p v w2 (wr.setCell ⟨r, j * 4 + 3, none⟩ (.bool true)).drew v) := by
            refine ⟨R1.nu (Kp.refl Nu _).drew, (hI.out.2.1.one j).congr (fun i y hy hg' => ?_), (hI.out.2.2.trans (Fq.of_kp k1)).drew⟩
            rw [List.take_add_one, hx]
            simp only [dpH, List.any_append, Option.toList, List.any_cons, List.any_nil, Bool.or_false, hj]
            congr 1
            by_cases e : i = j
            · subst e; simp
            · have e2 : ¬ j = i := fun h => e h.symm
              simp [e, e2]
          clear R1 k1 hI hR hc hx hin hg hgo hjl hlc hv hv2 kall hkL hxM hj HS
          generalize H.length = LH at *
          go_wp2_with fail
          go_region
          go_wp2
          exact ⟨⟨k + 1, _, by omega, by go_num, HF⟩, by simp [intOf]; omega⟩
        · have hge : ¬ (k : Int) < (N : Int) := by omega
          have eX : xs.take k = xs := List.take_of_length_le (by rw [HN.out]; omega)
          have hlc : Hc.length = H.length := hI.out.2.1.len
          have PL := places_any hR (by rw [hlc]; exact HHH.out)
          have HMk := hI.out.2.1
          rw [eX] at HMk
          have HRc := hide hR
          have HF0 := hide hI.out.2.2
          obtain ⟨M2, hM2⟩ : ∃ M2, (pls 0 Hc).length = M2 := ⟨_, rfl⟩
          have HM2 := hide hM2
          have hle : M2 ≤ M := by
            rw [← hM2, ← HM.out, pls_length, pls_length]
            exact HMk.livle
          rw [hM2] at PL
          have HMM := hide HMk
          clear hI hR eX hlc HMk hM2
          go_wp2_with fail
          refine PL.mono ?_; rintro e w3 ⟨l3, rfl, ho3, hk3⟩
          obtain ⟨ad3, cap3, hl3⟩ := own_slice ho3
          subst hl3
          have hR := HRc.out.nu hk3
          have e4 : w3.cell? ⟨p, 65543, none⟩ = some (.int .i64 c.x) := hR.cc (j := 4) rfl
          have f4 := hR.free 65543
          have hx0 := HX.out.1
          have hx1 := HX.out.2
          obtain ⟨q, hq⟩ : ∃ q : Nat, M = M2 + q := ⟨M - M2, by omega⟩
          have hd : ((M : Int) - (M2 : Int)) = (q : Int) := by omega
          have hq0 : (0 : Int) ≤ (q : Int) := by omega
          have hq1 : (q : Int) ≤ 1599289640400 := by omega
          have HF : Hid (∃ H', q + (liv H').length = (liv H).length ∧ Mk (dpH xs H) H H' ∧ Rn B (w3.setCell ⟨p, 65543, none⟩ (.int .i64 (c.x + (q : Int)))) p true room bs v { c with x := c.x + (q : Int) } H' ∧ Fq p v w (w3.setCell ⟨p, 65543, none⟩ (.int .i64 (c.x + (q : Int)))) v) := by
            refine ⟨Hc, ?_, HMM.out, hR.set 65543 _ (fun cur hc => hc.setC (j := 4) (by omega) rfl), ((((Fq.of_nu HK2.out).trans HF0.out).trans (Fq.of_nu hk3)).set _ _)⟩
            rw [← pls_length H 0, ← pls_length Hc 0, HM.out, HM2.out]
            omega
          have HE : Hid (inAll xs (pls 0 H).length = true) := by
            show _ = _
            rw [inAll, List.all_eq_true, HM.out]
            exact HA.out
          clear hR ho3 hk3 PL hq hle
          go_wp2
          go_ret2
          obtain ⟨H', a1, a2, a3, a4⟩ := HF.out
          exact .inr ⟨HE.out, q, H', rfl, a1, a2, a3, a4⟩
end
end Go.Proofs.Ythajboipnjjgfaa.Ly
