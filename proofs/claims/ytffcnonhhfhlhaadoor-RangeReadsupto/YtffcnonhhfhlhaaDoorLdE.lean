import Derived.Test.YtffcnonhhfhlhaaDoorLdD
import Derived.Test.YtffcnonhhfhlhaaDoorSr
import Derived.Lib.ItoaNum
import Derived.Laws.Concat
import Derived.Test.YtffcnonhhfhlhaaDoorWsC
import Derived.Lib.AppendIntMem
import Derived.Deep.RegionHeld
namespace Go.Proofs.YtffcnonhhfhlhaaDoor.Rg
open Go.RowKit Go.Shelf Go.Sort
open Go.Proofs.YtffcnonhhfhlhaaDoor.It
set_option linter.unusedVariables false

/-- what the document's Fault answers -/
def Frs (M : List Sg) (p c : Int) : Prop :=
  (∃ k s, Lok M k ∧ M[k]? = some s ∧ flt (lays [] (M.take k)) s = c ∧ c ≠ 0 ∧ p = (k : Int)) ∨
  (Lok M M.length ∧ c = 62 ∧ endF (lays [] M) = false ∧ p = (M.length : Int)) ∨
  (c = 0 ∧ Lok M M.length ∧ endF (lays [] M) = true ∧ p = 0)
theorem flt_62 {A : List Sg} {s : Sg} (h : fol A s = false) : flt A s = 62 := by simp [flt, h]
theorem flt_60 {A : List Sg} {s : Sg} (h : fol A s = true) (h2 : s.hi < s.lo) : flt A s = 60 := by simp [flt, h, h2]
theorem flt_2 {A : List Sg} {s : Sg} (h : fol A s = true) (h2 : ¬ s.hi < s.lo) (h3 : 16 ≤ s.h) : flt A s = 2 := by simp [flt, h, h2, h3]
theorem flt_0 {A : List Sg} {s : Sg} (h : fol A s = true) (h2 : ¬ s.hi < s.lo) (h3 : ¬ 16 ≤ s.h) : flt A s = 0 := by simp [flt, h, h2, h3]
theorem fol_ne {A : List Sg} {s : Sg} {m : Int} (hc : Cov 0 A m) (h : s.lo ≠ m) : fol A s = false := by
  cases hf : fol A s with
  | false => rfl
  | true => exact absurd (fol_cov hc hf) h
theorem fol_eq {A : List Sg} {s : Sg} {m : Int} (hc : Cov 0 A m) (h : s.lo = m) : fol A s = true := by
  rcases List.eq_nil_or_concat A with rfl | ⟨A', t, rfl⟩
  · have e : (0 : Int) = m := hc
    simp only [fol, List.getLast?_nil, beq_iff_eq]
    omega
  · rw [List.concat_eq_append] at hc ⊢
    have hl := cov_last hc
    have hm := cov_mem hc t (by simp)
    simp only [fol, List.getLast?_append, List.getLast?_singleton, Option.some_or, Bool.and_eq_true, decide_eq_true_eq, beq_iff_eq]
    omega
theorem lok_step {M : List Sg} {k : Nat} {s : Sg} (h : Lok M k) (hs : M[k]? = some s) (hf : flt (lays [] (M.take k)) s = 0) : Lok M (k + 1) := fun i hi x hx => by
  by_cases e : i = k
  · subst e
    rw [hs] at hx
    cases hx
    exact hf
  · exact h i (by omega) x hx
theorem end_of {M : List Sg} {E : Int} (hc : Cov 0 M E) : endF (lays [] M) = decide (E = 18446744073709551616) := by
  have hc2 := (lays_cov (A := []) (a := 0) (m := 0) rfl hc).1
  rcases List.eq_nil_or_concat (lays [] M) with e | ⟨A', t, e⟩
  · rw [e] at hc2 ⊢
    have e2 : (0 : Int) = E := hc2
    have : ¬ E = 18446744073709551616 := by omega
    simp [endF, this]
  · rw [List.concat_eq_append] at e
    rw [e] at hc2 ⊢
    have hl := cov_last hc2
    simp only [endF, List.getLast?_append, List.getLast?_singleton, Option.some_or]
    by_cases h : E = 18446744073709551616
    · rw [decide_eq_true h]; simp; omega
    · rw [decide_eq_false h]; simp; omega

set_option maxRecDepth 100000 in
set_option maxHeartbeats 2000000 in
theorem fault_refA (w : World) (u : Value) (M : List Sg) (hM : Sgs w u M) (hlen : (M.length : Int) ≤ 5864062014634) :
    Calls Tryd.prog 30 #[u] w fun e w' => ∃ p c : Int, e = .returned (.tuple #[.int .i64 p, .int .i64 c]) ∧ Frs M p c ∧ Kp Nu w w' := by
  have mixed : Tryd.prog.follows .mixedOrders = true := by kernel_rfl
  obtain ⟨ad, cap, hu⟩ := hM.slice
  obtain ⟨N, hN⟩ : ∃ N, M.length = N := ⟨_, rfl⟩
  have HM := hide hM
  have HN := hide hN
  rw [hN] at hu hlen
  subst hu
  clear hM hN
  go_enter Tryd.func30, Tryd.ntmps30
  go_wp2_with fail
  go_loopw [4, 5, 6] (fun nx ov i wr => ∃ (k : Nat) (E : Int), i = .int .i64 (k : Int) ∧ k ≤ N ∧ nx = .int .u64 (if E = 18446744073709551616 then 0 else E) ∧ ov = .bool (decide (E = 18446744073709551616)) ∧ Hid (Lok M k ∧ 0 ≤ E ∧ E ≤ 18446744073709551616 ∧ Cov 0 (M.take k) E ∧ (∀ s ∈ M.take k, 0 ≤ s.h ∧ s.h < 16) ∧ Kp Nu w wr)) (fun _ _ i _ => N - (intOf i).toNat)
  case atStart => exact ⟨0, 0, rfl, Nat.zero_le _, by simp, by simp, ⟨fun i hi => by omega, by omega, by omega, rfl, by simp, Kp.refl _ _⟩⟩
  case round =>
    obtain ⟨k, E, rfl, hk, rfl, rfl, hI⟩ := hrel
    by_cases hlt : k < N
    · have hkM : k < M.length := by rw [HN.out]; exact hlt
      obtain ⟨s, hs⟩ : ∃ s, M[k]? = some s := ⟨_, List.getElem?_eq_getElem hkM⟩
      have hcell : ∃ bs off cp, (.slice ad N cap : Value) = .slice (some ⟨bs, off, none⟩) N cp ∧ SgAt w bs (off + k * 3) s := by
        rcases HM.out with ⟨_, h0⟩ | ⟨bs, off, cp, h0, h3⟩
        · rw [h0] at hs; simp at hs
        · rw [HN.out] at h0
          exact ⟨bs, off, cp, h0, h3 k s hs⟩
      obtain ⟨bs, off, cp, hq, hsg⟩ := hcell
      simp only [Value.slice.injEq] at hq
      obtain ⟨rfl, hq1⟩ := hq
      clear hq1
      obtain ⟨hok, E0, E1, hc, hh, hkp⟩ := hI.out
      have hcA := (lays_cov (A := []) (a := 0) (m := 0) rfl hc).1
      have HOK := hide hok
      have HS := hide hs
      clear hok
      obtain ⟨c0, c1, c2, F1⟩ := hsg
      replace c0 := cell_nu c0 hkp
      replace c1 := cell_nu c1 hkp
      replace c2 := cell_nu c2 hkp
      have hltI : (k : Int) < (N : Int) := by omega
      have hk0 : (0 : Int) ≤ (k : Int) := by omega
      have HK := hide hkp
      have HTK : Hid (M.take (k + 1) = M.take k ++ [s]) := by
        show _ = _
        rw [List.take_add_one, hs]; rfl
      by_cases hE : E = 18446744073709551616
      · rw [if_pos hE, decide_eq_true hE]
        have HFL : Hid (flt (lays [] (M.take k)) s = 62) := flt_62 (fol_ne hcA (by omega))
        clear hI hc hh hkp hs hkM hcA
        go_wp2
        go_ret2
        exact ⟨_, _, rfl, .inl ⟨k, s, HOK.out, HS.out, HFL.out, by omega, rfl⟩, HK.out⟩
      rw [if_neg hE, decide_eq_false hE]
      by_cases hlo : s.lo = E
      · have y1 : (s.lo != E) = false := by simp [hlo]
        have y1' : (E != E) = false := by simp
        by_cases hgt : s.lo > s.hi
        · have hgd : decide (s.hi < s.lo) = true := decide_eq_true hgt
          have d0 : wr.drew.cell? ⟨bs, off + k * 3, none⟩ = some (.int .u64 s.lo) := c0
          have d1 : wr.drew.cell? ⟨bs, off + k * 3 + 1, none⟩ = some (.int .u64 s.hi) := c1
          have HK2 : Hid (Kp Nu w wr.drew) := HK.out.drew
          have HFL : Hid (flt (lays [] (M.take k)) s = 60) := flt_60 (fol_eq hcA hlo) (by omega)
          clear hI hc hh hkp hs hkM hlo hcA
          go_wp2_with fail
          go_region
          go_wp2
          go_ret2
          exact ⟨_, _, rfl, .inl ⟨k, s, HOK.out, HS.out, HFL.out, by omega, rfl⟩, HK2.out⟩
        · have hgd : decide (s.hi < s.lo) = false := decide_eq_false hgt
          have d0 : wr.drew.cell? ⟨bs, off + k * 3, none⟩ = some (.int .u64 s.lo) := c0
          have d1 : wr.drew.cell? ⟨bs, off + k * 3 + 1, none⟩ = some (.int .u64 s.hi) := c1
          have d2 : wr.drew.cell? ⟨bs, off + k * 3 + 2, none⟩ = some (.int .u8 s.h) := c2
          have HK2 : Hid (Kp Nu w wr.drew) := HK.out.drew
          have RH := refHost_any s.h wr.drew
          by_cases hho : s.h ≤ 15
          · rw [decide_eq_true hho] at RH
            have HF : Hid (Lok M (k + 1) ∧ 0 ≤ s.hi + 1 ∧ s.hi + 1 ≤ 18446744073709551616 ∧ Cov 0 (M.take (k + 1)) (s.hi + 1) ∧ (∀ t ∈ M.take (k + 1), 0 ≤ t.h ∧ t.h < 16) ∧ Kp Nu w wr.drew) := by
              refine ⟨lok_step HOK.out HS.out (flt_0 (fol_eq hcA hlo) (by omega) (by omega)), by omega, by omega, ?_, ?_, HK2.out⟩
              · rw [HTK.out]; exact cov_snoc hc hlo (by omega)
              · rw [HTK.out]; intro t ht
                rcases List.mem_append.1 ht with h | h
                · exact hh t h
                · simp at h; subst h; omega
            have hwp : IntKind.u64.wrap (s.hi + 1) = if s.hi + 1 = 18446744073709551616 then 0 else s.hi + 1 := by
              rw [IntKind.wrap_u64]; split <;> omega
            have hov : (s.hi == 18446744073709551615) = decide (s.hi + 1 = 18446744073709551616) := by
              by_cases e : s.hi = 18446744073709551615
              · simp [e]
              · have : ¬ s.hi + 1 = 18446744073709551616 := by omega
                simp [e, this]
            have HWP := hide (And.intro hwp hov)
            clear hI hc hh hkp hs hkM hlo hwp hov hcA
            go_wp2_with fail
            go_region
            go_wp2_with fail
            refine RH.mono ?_; rintro e w2 ⟨rfl, hw2⟩
            obtain rfl := hw2.symm
            clear RH hw2
            go_wp2
            go_roundw
            case rel => exact ⟨k + 1, s.hi + 1, by go_num, by omega, by first | rw [HWP.out.1] | (rw [← HWP.out.1]), by rw [HWP.out.2], HF⟩
            case measure => simp [intOf]; omega
          · rw [decide_eq_false hho] at RH
            have HFL : Hid (flt (lays [] (M.take k)) s = 2) := flt_2 (fol_eq hcA hlo) (by omega) (by omega)
            clear hI hc hh hkp hs hkM hlo hcA
            go_wp2_with fail
            go_region
            go_wp2_with fail
            refine RH.mono ?_; rintro e w2 ⟨rfl, hw2⟩
            obtain rfl := hw2.symm
            clear RH hw2
            go_wp2
            go_ret2
            exact ⟨_, _, rfl, .inl ⟨k, s, HOK.out, HS.out, HFL.out, by omega, rfl⟩, HK2.out⟩
      · have y1 : (s.lo != E) = true := by simp [hlo]
        have HFL : Hid (flt (lays [] (M.take k)) s = 62) := flt_62 (fol_ne hcA hlo)
        clear hI hc hh hkp hs hkM hcA
        go_wp2
        go_ret2
        exact ⟨_, _, rfl, .inl ⟨k, s, HOK.out, HS.out, HFL.out, by omega, rfl⟩, HK.out⟩
    · have hge : ¬ (k : Int) < (N : Int) := by omega
      obtain rfl : k = N := by omega
      obtain ⟨hok, E0, E1, hc, hh, hkp⟩ := hI.out
      have HOK : Hid (Lok M M.length) := by show Lok M M.length; rw [HN.out]; exact hok
      clear hok
      rw [List.take_of_length_le (by rw [HN.out]; omega)] at hc hh
      have HK := hide hkp
      by_cases hE : E = 18446744073709551616
      · subst hE
        have HG : Hid (endF (lays [] M) = true) := by show _ = _; rw [end_of hc]; rfl
        clear hI hc hh hkp
        simp only [if_true, decide_true]
        go_wp2
        go_ret2
        exact ⟨_, _, rfl, .inr (.inr ⟨rfl, HOK.out, HG.out, rfl⟩), HK.out⟩
      · rw [if_neg hE, decide_eq_false hE]
        have HG : Hid (endF (lays [] M) = false) := by show _ = _; rw [end_of hc]; exact decide_eq_false hE
        clear hI hc hh hkp
        go_wp2
        go_ret2
        exact ⟨_, _, rfl, .inr (.inl ⟨HOK.out, rfl, HG.out, by rw [HN.out]⟩), HK.out⟩
end Go.Proofs.YtffcnonhhfhlhaaDoor.Rg
namespace Go.Proofs.YtffcnonhhfhlhaaDoor.Rg
open Go.RowKit
set_option linter.unusedVariables false

theorem dec_big {n : Nat} (h : ¬ n < 10) : Lib.decDigits n = Lib.decDigits (n / 10) ++ [UInt8.ofNat (48 + n % 10)] := by
  rw [Lib.decDigits, dif_neg h]
theorem dec_len (n : Nat) (h : n < 18446744073709551616) : (Lib.decDigits n).length ≤ 20 := by
  have key : ∀ k m : Nat, m < 10 ^ k → 1 ≤ k → (Lib.decDigits m).length ≤ k := by
    intro k
    induction k with
    | zero => intro m _ h; omega
    | succ k ih =>
      intro m hm _
      by_cases h1 : m < 10
      · rw [Lib.decDigits_one h1]; simp
      · rw [dec_big h1, List.length_append]
        have hk : 1 ≤ k := by
          rcases Nat.eq_zero_or_pos k with rfl | h
          · simp at hm; omega
          · exact h
        have := ih (m / 10) (by rw [Nat.pow_succ] at hm; omega) hk
        simp; omega
  exact key 20 n (by omega) (by omega)
theorem dec_pos (n : Nat) : 0 < (Lib.decDigits n).length := by
  by_cases h : n < 10
  · rw [Lib.decDigits_one h]; simp
  · rw [dec_big h]; simp

theorem one_back (W : World) (c : UInt8) : (convert 100 9 (.slice (some ⟨W.heap.size, 0, none⟩) 1 1)).run Tryd.prog (W.alloc (.cells #[.int .u8 (c.toNat : Int)] 5)) = .ok (.string ⟨[c].toArray⟩) (W.alloc (.cells #[.int .u8 (c.toNat : Int)] 5)) := by
  refine run_convert_bytes_back _ 100 9 5 ⟨W.heap.size, 0, none⟩ 1 [c] Tryd.underlying100 Tryd.underlying5 Tryd.underlying9 (fun j hj => ?_)
  have : j = 0 := by simpa using hj
  subst this
  show World.cell? _ ⟨W.heap.size, 0, none⟩ = _
  rw [World.cell?_alloc_new]
  simp

theorem u8_dig (M : Int) (h0 : 0 ≤ M) (h1 : M < 10) : IntKind.u8.wrap (48 + M) = ((UInt8.ofNat (48 + M.toNat)).toNat : Int) := by
  rw [IntKind.wrap_u8]
  simp
  omega

set_option maxRecDepth 100000 in
set_option maxHeartbeats 1000000 in
theorem refDigits_any (n : Int) (h0 : 0 ≤ n) (h1 : n < 18446744073709551616) (w : World) :
    Calls Tryd.prog 71 #[.int .u64 n] w fun e w' => e = .returned (.string ⟨(Lib.decDigits n.toNat).toArray⟩) ∧ Kp Nu w w' := by
  have mixed : Tryd.prog.follows .mixedOrders = true := by kernel_rfl
  have HLn := hide (dec_len n.toNat (by omega))
  go_enter Tryd.func71, Tryd.ntmps71
  go_wp2_with fail
  go_loopw [0, 3] (fun nv sv wr => ∃ (M : Int) (acc : List UInt8), nv = .int .u64 M ∧ sv = .string ⟨acc.toArray⟩ ∧ 0 ≤ M ∧ M < 18446744073709551616 ∧ Hid (Lib.decDigits n.toNat = Lib.decDigits M.toNat ++ acc) ∧ Hid (Kp Nu w wr)) (fun nv _ _ => (intOf nv).toNat)
  case atStart => exact ⟨n, [], rfl, rfl, h0, h1, by simp [Hid], Kp.refl _ _⟩
  case round =>
    obtain ⟨M, acc, rfl, rfl, hm0, hm1, HS, HK⟩ := hrel
    have hal : acc.length ≤ 20 := by have h2 := HS.out; have h3 := HLn.out; rw [h2, List.length_append] at h3; omega
    have hsz : ByteArray.size ⟨acc.toArray⟩ = acc.length := by simp [ByteArray.size]
    by_cases hM : 9 < M
    · obtain ⟨c, hc⟩ : ∃ c, c = UInt8.ofNat (48 + M.toNat % 10) := ⟨_, rfl⟩
      have hcI : IntKind.u8.wrap (48 + M % 10) = (c.toNat : Int) := by
        rw [hc, u8_dig (M % 10) (by omega) (by omega)]; congr 3; omega
      have HN : Hid (Lib.decDigits n.toNat = Lib.decDigits (M / 10).toNat ++ (c :: acc)) := by
        show Lib.decDigits n.toNat = _
        rw [HS.out, dec_big (show ¬ M.toNat < 10 by omega), hc, show (M / 10).toNat = M.toNat / 10 by omega]; simp
      have OB := one_back wr.drew c
      have OB2 := one_back wr c
      have KW := hide (HK.out.andAlloc (.cells #[.int .u8 (c.toNat : Int)] 5))
      have hm10 : M % 10 < 10 := by omega
      have hm11 : 0 ≤ M % 10 := by omega
      have hcat : (ByteArray.mk [c].toArray ++ ByteArray.mk acc.toArray) = ByteArray.mk (c :: acc).toArray := ByteArray.mk_append_mk [c] acc
      have hsz1 : ByteArray.size ⟨[c].toArray⟩ = 1 := rfl
      clear HS hc
      go_wp2
      go_roundw
      case rel => exact ⟨M / 10, c :: acc, by go_num, rfl, by omega, by omega, HN, KW⟩
      case measure => simp [intOf]; omega
    · obtain ⟨c, hc⟩ : ∃ c, c = UInt8.ofNat (48 + M.toNat) := ⟨_, rfl⟩
      have hcI : IntKind.u8.wrap (48 + M) = (c.toNat : Int) := by
        rw [hc, u8_dig M (by omega) (by omega)]
      have HN : Hid (Lib.decDigits n.toNat = c :: acc) := by
        show Lib.decDigits n.toNat = _
        rw [HS.out, Lib.decDigits_one (show M.toNat < 10 by omega), hc]; simp
      have OB := one_back wr.drew c
      have OB2 := one_back wr c
      have KW := hide (HK.out.andAlloc (.cells #[.int .u8 (c.toNat : Int)] 5))
      have hcat : (ByteArray.mk [c].toArray ++ ByteArray.mk acc.toArray) = ByteArray.mk (c :: acc).toArray := ByteArray.mk_append_mk [c] acc
      have hsz1 : ByteArray.size ⟨[c].toArray⟩ = 1 := rfl
      clear HS hc
      go_wp2
      go_ret
      rw [HN.out]
      exact ⟨rfl, KW.out⟩
end Go.Proofs.YtffcnonhhfhlhaaDoor.Rg
namespace Go.Proofs.YtffcnonhhfhlhaaDoor.Rg
open Go.RowKit Go.Shelf Go.Sort
open Go.Proofs.YtffcnonhhfhlhaaDoor.It
set_option linter.unusedVariables false

/-- a segment's word -/
def wrd (s : Sg) : List UInt8 := Lib.decDigits s.lo.toNat ++ [45] ++ Lib.decDigits s.hi.toNat ++ [58] ++ Lib.decDigits s.h.toNat
/-- a table's text -/
def txt : List Sg → List UInt8
  | [] => []
  | s :: r => wrd s ++ r.flatMap (fun t => 32 :: wrd t)
theorem txt_one (s : Sg) : txt [s] = wrd s := by simp [txt]
theorem txt_snoc (A : List Sg) (s : Sg) (h : A ≠ []) : txt (A ++ [s]) = txt A ++ 32 :: wrd s := by
  cases A with
  | nil => exact absurd rfl h
  | cons a r => simp [txt]
theorem wrd_len {s : Sg} (h : SgB s) : (wrd s).length ≤ 62 ∧ 0 < (wrd s).length := by
  have := dec_len s.lo.toNat (by have := h.l0; have := h.l1; omega)
  have := dec_len s.hi.toNat (by have := h.h0; have := h.h1; omega)
  have := dec_len s.h.toNat (by have := h.o0; have := h.o1; omega)
  simp [wrd]; omega
theorem flat_len : ∀ (r : List Sg), (∀ s ∈ r, SgB s) → (r.flatMap (fun t => 32 :: wrd t)).length ≤ 63 * r.length
  | [], _ => by simp
  | s :: r, h => by
    have h1 := flat_len r (fun t ht => h t (List.mem_cons_of_mem _ ht))
    have h2 := (wrd_len (h s (List.mem_cons_self ..))).1
    simp at h1 ⊢; omega
theorem txt_len : ∀ (L : List Sg), (∀ s ∈ L, SgB s) → (txt L).length ≤ 63 * L.length
  | [], _ => by simp [txt]
  | s :: r, h => by
    have h1 := flat_len r (fun t ht => h t (List.mem_cons_of_mem _ ht))
    have h2 := (wrd_len (h s (List.mem_cons_self ..))).1
    simp [txt] at h1 ⊢; omega
theorem txt_pos {L : List Sg} (h : ∀ s ∈ L, SgB s) (hne : L ≠ []) : 0 < (txt L).length := by
  cases L with
  | nil => exact absurd rfl hne
  | cons s r =>
    have h2 := (wrd_len (h s (List.mem_cons_self ..))).2
    simp [txt]; omega

theorem info5 : (Tryd.prog.info? 5).map (fun i => (i.zero, i.size, i.bytes)) = some (some (.int .u8 0), 1, 1) := by kernel_rfl
theorem new1b (W : World) (z : Int) (j : Nat) (u : Value) (h : ([.int .u8 z] : List Value)[j]? = some u) : (W.alloc (.cells #[.int .u8 z] 5)).cell? ((⟨W.heap.size, 0, none⟩ : Addr).add j) = some u := by
  have e : (⟨W.heap.size, 0, none⟩ : Addr).add j = ⟨W.heap.size, j, none⟩ := by simp [Addr.add]; exact fun h => h.symm
  rw [e, World.cell?_alloc_new]
  simpa using h
theorem conv_row {w : World} {base : Nat} {v : Value} {acc : List UInt8} (h : w.ownsRow base 5 1 v acc.length (Lib.byteCells acc)) : (convert 100 9 v).run Tryd.prog w = .ok (.string ⟨acc.toArray⟩) w := by
  rcases h.2 with ⟨rfl, h0⟩ | ⟨g, cap, cur, rfl, hb, hg, hr⟩
  · obtain rfl := List.eq_nil_of_length_eq_zero h0
    exact run_convert_bytes_nil w 100 5 Tryd.underlying100 Tryd.underlying5 0 0 9 Tryd.underlying9
  · refine run_convert_bytes_back w 100 9 5 ⟨g, 0, none⟩ cap acc Tryd.underlying100 Tryd.underlying5 Tryd.underlying9 (fun j hj => ?_)
    have hc : ∀ j u, (Lib.byteCells acc)[j]? = some u → w.cell? ((⟨g, 0, none⟩ : Addr).add j) = some u := h.cells rfl
    exact hc j _ (by simp [Lib.byteCells, List.getElem?_eq_getElem hj])
theorem own_grown {w1 wr w3 : World} {v : Value} {n : Nat} {xs : List Value} (hk : Kp Nu w1 wr) (ho : wr.ownsRow w1.heap.size 5 1 v n xs) (hg : wr.grownBy w3 v.ownBlock) : Kp Nu w1 w3 :=
  hk.trans (Kp.of_grown hg) (fun i hi e => by have := (ho.lt i e.symm).1; omega)
end Go.Proofs.YtffcnonhhfhlhaaDoor.Rg
