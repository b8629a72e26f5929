import Derived.Test.YtffcnonhhfhlhaaDoorWsG
import Derived.Test.YtffcnonhhfhlhaaDoorLdE
namespace Go.Proofs.YtffcnonhhfhlhaaDoor.Ws
open Num
set_option linter.unusedVariables false
def hexD (d : Nat) : Nat := if d < 10 then 48 + d else 87 + d
theorem dec_small {n : Nat} (h : n < 10) : Lib.decDigits n = [UInt8.ofNat (hexD n)] := by
  rw [Lib.decDigits_one h]
  unfold hexD
  rw [if_pos h]
theorem dec_big {n : Nat} (h : ¬ n < 10) : Lib.decDigits n = Lib.decDigits (n / 10) ++ [UInt8.ofNat (hexD (n % 10))] := by
  rw [Lib.decDigits, dif_neg h]
  unfold hexD
  rw [if_pos (by omega)]
theorem decF_all : ∀ (l : List UInt8) (n k : Nat), digs l → n * 10 ^ l.length + dv l ≤ top → decF n k l = (n * 10 ^ l.length + dv l, 0, 0)
  | [], n, k, _, _ => by simp [Num.decF, Num.dv]
  | c :: r, n, k, h, ht => by
    have h1 := h c (by simp)
    have e : n * 10 ^ (c :: r).length + dv (c :: r) = (10 * n + (c.toNat - 48)) * 10 ^ r.length + dv r := by
      simp only [List.length_cons, Num.dv, Nat.pow_succ, Nat.add_mul]
      rw [Nat.mul_comm (10 ^ r.length) 10, ← Nat.mul_assoc, Nat.mul_comm n 10]
      omega
    have hle : 10 * n + (c.toNat - 48) ≤ (10 * n + (c.toNat - 48)) * 10 ^ r.length := Nat.le_mul_of_pos_right _ (Nat.pow_pos (by omega))
    rw [e] at ht
    rw [Num.decF, if_neg (by omega), if_neg (by omega), decF_all r _ _ (fun x hx => h x (by simp [hx])) ht, e]

theorem u8c (n : Nat) (h : n < 256) : (UInt8.ofNat n).toNat = n := by simp; omega
theorem dec_digs (n : Nat) : digs (Lib.decDigits n) ∧ dv (Lib.decDigits n) = n := by
  induction n using Nat.strongRecOn with
  | ind n ih =>
    by_cases h : n < 10
    · rw [dec_small h]
      have e : hexD n = 48 + n := by unfold hexD; rw [if_pos h]
      rw [e]
      have e2 := u8c (48 + n) (by omega)
      refine ⟨fun c hc => ?_, ?_⟩
      · simp only [List.mem_singleton] at hc
        subst hc
        omega
      · simp only [Num.dv, List.length_nil, Nat.pow_zero, Nat.mul_one, Nat.add_zero]
        omega
    · rw [dec_big h]
      have ih' := ih (n / 10) (by omega)
      have e : hexD (n % 10) = 48 + n % 10 := by unfold hexD; rw [if_pos (by omega)]
      rw [e]
      have e2 := u8c (48 + n % 10) (by omega)
      refine ⟨fun c hc => ?_, ?_⟩
      · rcases List.mem_append.1 hc with hc | hc
        · exact ih'.1 c hc
        · simp only [List.mem_singleton] at hc
          subst hc
          omega
      · rw [dv_snoc, ih'.2, e2]
        omega
/-- the first digit is no zero -/
theorem dec_first (n : Nat) (h : 0 < n) : ∃ c r, Lib.decDigits n = c :: r ∧ c ≠ 48 := by
  induction n using Nat.strongRecOn with
  | ind n ih =>
    by_cases h1 : n < 10
    · rw [dec_small h1]
      have e : hexD n = 48 + n := by unfold hexD; rw [if_pos h1]
      rw [e]
      refine ⟨_, [], rfl, fun hc => ?_⟩
      have := congrArg UInt8.toNat hc
      rw [u8c _ (by omega)] at this
      simp at this
      omega
    · rw [dec_big h1]
      obtain ⟨c, r, h2, h3⟩ := ih (n / 10) (by omega) (by omega)
      exact ⟨c, r ++ _, by rw [h2]; rfl, h3⟩
theorem num_dec (n : Nat) (hn : n < 18446744073709551616) : numF (Lib.decDigits n) = (n, 0, 0) := by
  obtain ⟨h1, h2⟩ := dec_digs n
  have hd : decF 0 0 (Lib.decDigits n) = (n, 0, 0) := by
    rw [decF_all _ 0 0 h1 (by rw [h2]; unfold Num.top; omega), h2]
    simp
  unfold Num.numF
  have hne : Lib.decDigits n ≠ [] := by
    by_cases h : n < 10
    · rw [dec_small h]; simp
    · rw [dec_big h]; simp
  rw [if_neg hne, if_neg, if_neg, hd]
  · rintro ⟨e, hl⟩
    by_cases h0 : 0 < n
    · obtain ⟨c, r, h3, h4⟩ := dec_first n h0
      rw [h3] at e
      simp at e
      exact h4 e
    · obtain rfl : n = 0 := by omega
      rw [dec_small (by omega)] at hl
      simp at hl
  · intro e
    have hm : (120 : UInt8) ∈ Lib.decDigits n := List.mem_of_mem_take (i := 2) (by rw [e]; simp)
    have := h1 120 hm
    exact absurd this (by decide)

/-! hexadecimal -/
end Go.Proofs.YtffcnonhhfhlhaaDoor.Ws
namespace Go.Proofs.YtffcnonhhfhlhaaDoor.Ws
open Go.Proofs.YtffcnonhhfhlhaaDoor.Rg (Sg SgB cells Tab Cov wrd txt Lok lays endF flt)
set_option linter.unusedVariables false
theorem dig_of (n : Nat) : ∀ c ∈ Lib.decDigits n, 48 ≤ c.toNat ∧ c.toNat ≤ 57 := (dec_digs n).1
theorem dec_dB (n : Nat) (hn : n < 18446744073709551616) : dB (Lib.decDigits n) = true ∧ dN (Lib.decDigits n) = n := by
  have h := num_dec n hn
  refine ⟨?_, by unfold dN; rw [h]⟩
  unfold dB
  rw [h]
  have hp : Num.pre (Lib.decDigits n) = false := by
    unfold Num.pre
    rw [beq_eq_false_iff_ne]
    intro e
    have h120 : (120 : UInt8) ∈ Lib.decDigits n := by
      have : (120 : UInt8) ∈ (Lib.decDigits n).take 2 := by rw [e]; simp
      exact List.mem_of_mem_take this
    have := (dig_of n 120 h120).2
    exact absurd this (by decide)
  rw [hp]
  rfl
theorem cut_app {c : UInt8} : ∀ {a : List UInt8} (r : List UInt8), (∀ x ∈ a, x ≠ c) → cutL c (a ++ c :: r) = (a, some r)
  | [], r, _ => by simp [cutL]
  | x :: a, r, h => by
    have h1 := h x (by simp)
    have ih := cut_app (a := a) r (fun y hy => h y (List.mem_cons_of_mem _ hy))
    simp [cutL, h1, ih]
theorem cut_not {c : UInt8} : ∀ {a : List UInt8}, (∀ x ∈ a, x ≠ c) → cutL c a = (a, none)
  | [], _ => rfl
  | x :: a, h => by
    have h1 := h x (by simp)
    have ih := cut_not (a := a) (fun y hy => h y (List.mem_cons_of_mem _ hy))
    simp [cutL, h1, ih]
theorem dig_ne {n : Nat} {c : UInt8} (hc : c.toNat < 48 ∨ 57 < c.toNat) : ∀ x ∈ Lib.decDigits n, x ≠ c := fun x hx e => by
  have := dig_of n x hx
  rw [e] at this
  omega
theorem seg_wrd {s : Sg} (h : SgB s) (h16 : s.h < 16) : segF (wrd s) = some s := by
  obtain ⟨a1, a2⟩ := dec_dB s.lo.toNat (by have := h.l0; have := h.l1; omega)
  obtain ⟨b1, b2⟩ := dec_dB s.hi.toNat (by have := h.h0; have := h.h1; omega)
  obtain ⟨c1, c2⟩ := dec_dB s.h.toNat (by have := h.o0; have := h.o1; omega)
  have e0 : wrd s = Lib.decDigits s.lo.toNat ++ 45 :: (Lib.decDigits s.hi.toNat ++ 58 :: Lib.decDigits s.h.toNat) := by simp [wrd]
  have hA : pA (wrd s) = Lib.decDigits s.lo.toNat := by unfold pA; rw [e0, cut_app _ (dig_ne (.inl (by decide)))]
  have hR : pR (wrd s) = Lib.decDigits s.hi.toNat ++ 58 :: Lib.decDigits s.h.toNat := by unfold pR; rw [e0, cut_app _ (dig_ne (.inl (by decide)))]; rfl
  have hB : pB (wrd s) = Lib.decDigits s.hi.toNat := by unfold pB; rw [hR, cut_app _ (dig_ne (.inr (by decide)))]
  have hC : pC (wrd s) = Lib.decDigits s.h.toNat := by unfold pC; rw [hR, cut_app _ (dig_ne (.inr (by decide)))]; rfl
  unfold segF
  rw [hA, hB, hC, a1, a2, b1, b2, c1, c2, if_pos ⟨rfl, rfl, rfl, by omega⟩]
  have := h.l0; have := h.h0; have := h.o0
  congr 1
  cases s
  simp only at *
  congr 1 <;> omega
theorem wrd_ne (s : Sg) : ∀ x ∈ wrd s, x ≠ 32 := fun x hx e => by
  subst e
  simp only [wrd, List.mem_append, List.mem_singleton] at hx
  rcases hx with (((hx | hx) | hx) | hx) | hx
  · exact dig_ne (.inl (by decide)) _ hx rfl
  · exact absurd hx (by decide)
  · exact dig_ne (.inl (by decide)) _ hx rfl
  · exact absurd hx (by decide)
  · exact dig_ne (.inl (by decide)) _ hx rfl
theorem spl_txt : ∀ (s : Sg) (r : List Sg), spl 32 (txt (s :: r)) = (s :: r).map wrd
  | s, [] => by
    have e : txt [s] = wrd s := by simp [txt]
    rw [e, spl_none (cut_not (wrd_ne s))]
    rfl
  | s, t :: r => by
    have e : txt (s :: t :: r) = wrd s ++ 32 :: txt (t :: r) := by simp [txt]
    rw [e, spl_some (cut_app _ (wrd_ne s)), spl_txt t r]
    rfl
theorem tab_sgb {L : List Sg} (h : Tab L) : ∀ s ∈ L, SgB s ∧ s.h < 16 := fun s hs => by
  have hm := Rg.cov_mem h.cov s hs
  have hh := h.hs s hs
  exact ⟨⟨by omega, by omega, by omega, by omega, hh.1, by omega⟩, hh.2⟩
theorem map_some_inj : ∀ {a b : List Sg}, a.map some = b.map some → a = b
  | [], [], _ => rfl
  | [], y :: b, h => by simp at h
  | x :: a, [], h => by simp at h
  | x :: a, y :: b, h => by
    simp only [List.map_cons, List.cons.injEq, Option.some.injEq] at h
    rw [h.1, map_some_inj h.2]
theorem pok_txt {L S : List Sg} (h : Tab L) (hS : Pok S (spl 32 (txt L))) : S = L := by
  cases L with
  | nil => exact absurd h.ne (by simp)
  | cons s r =>
    rw [spl_txt] at hS
    have e : ((s :: r).map wrd).map segF = (s :: r).map some := by
      rw [List.map_map]
      exact List.map_congr_left (fun x hx => seg_wrd (tab_sgb h x hx).1 (tab_sgb h x hx).2)
    unfold Pok at hS
    rw [e] at hS
    exact map_some_inj hS
theorem txt_seg {L : List Sg} (h : Tab L) {p : List (List UInt8)} {x : List UInt8} (hp : p ++ [x] <+: spl 32 (txt L)) : segF x ≠ none := by
  cases L with
  | nil => exact absurd h.ne (by simp)
  | cons s r =>
    rw [spl_txt] at hp
    have hx : x ∈ (s :: r).map wrd := hp.subset (by simp)
    obtain ⟨t, ht, rfl⟩ := List.mem_map.1 hx
    rw [seg_wrd (tab_sgb h t ht).1 (tab_sgb h t ht).2]
    simp
theorem cov_split : ∀ {A R : List Sg} {s : Sg} {a b : Int}, Cov a (A ++ s :: R) b → Cov a A s.lo ∧ s.lo ≤ s.hi
  | [], R, s, a, b, h => ⟨h.1.symm, by have h1 := h.1; have h2 := h.2.1; omega⟩
  | x :: A, R, s, a, b, h => by
    obtain ⟨h1, h2⟩ := cov_split (A := A) h.2.2
    exact ⟨⟨h.1, h.2.1, h1⟩, h2⟩
theorem tab_lok {L : List Sg} (h : Tab L) : Lok L L.length := fun i hi s hs => by
  have e : L = L.take i ++ s :: L.drop (i + 1) := by
    have hg : L[i] = s := (List.getElem?_eq_some_iff.1 hs).2
    rw [← hg, List.getElem_cons_drop, List.take_append_drop]
  have hc := h.cov
  rw [e] at hc
  obtain ⟨h1, h2⟩ := cov_split hc
  obtain ⟨h3, _⟩ := Rg.lays_cov (A := []) (a := 0) (m := 0) rfl h1
  exact Rg.flt_0 (Rg.fol_eq h3 rfl) (by omega) (by have := (h.hs s (List.mem_of_getElem? hs)).2; omega)
theorem lay_app : ∀ (A : List Sg) (t s : Sg), t.h ≠ s.h → Rg.lay (A ++ [t]) s = A ++ [t, s]
  | [], t, s, h => by simp [Rg.lay, h]
  | [x], t, s, h => by simp [Rg.lay, h]
  | x :: y :: A, t, s, h => by
    have ih := lay_app (y :: A) t s h
    simp only [List.cons_append] at ih ⊢
    cases A <;> simp_all [Rg.lay]
theorem alt_mid : ∀ (A : List Sg) (t s : Sg) (R : List Sg), Rg.Alt (A ++ t :: s :: R) → t.h ≠ s.h
  | [], t, s, R, h => h.1
  | [x], t, s, R, h => h.2.1
  | x :: y :: A, t, s, R, h => alt_mid (y :: A) t s R h.2
theorem lays_app : ∀ (R A : List Sg) (t : Sg), Rg.Alt (A ++ t :: R) → Rg.lays (A ++ [t]) R = A ++ t :: R
  | [], A, t, _ => rfl
  | s :: R, A, t, h => by
    rw [Rg.lays_cons, lay_app A t s (alt_mid A t s R h)]
    have := lays_app R (A ++ [t]) s (by simpa using h)
    simpa using this
theorem tab_lays {L : List Sg} (h : Tab L) : Rg.lays [] L = L := by
  cases L with
  | nil => rfl
  | cons t R =>
    have := lays_app R [] t h.alt
    simpa [Rg.lays_cons, Rg.lay] using this
/-- what load answers of a table -/
theorem lrs_tab {w w' : World} {lim : Int} {L : List Sg} {p : Value} {i c : Int} (hT : Tab L) (h : Rg.Lrs w w' lim L p i c) : (c = 61 ∧ p = .pointer none ∧ i = (L.length : Int) ∧ lim < (L.length : Int)) ∨ (c = 0 ∧ (L.length : Int) ≤ lim ∧ ∃ b v, p = .pointer (some ⟨b, 0, none⟩) ∧ Rg.Tb w.heap.size w' b lim v L) := by
  have hl := tab_lays hT
  rcases h with ⟨h1, k, s, _, h3, h4, h5, h6⟩ | ⟨h1, _, h3, h4⟩ | ⟨h1, h2, h3, h4, h5, b, v, h6, t⟩
  · exact absurd (tab_lok hT k (List.getElem?_eq_some_iff.1 h3).1 s h3) (by rw [h4]; exact h5)
  · rcases h4 with ⟨rfl, he⟩ | ⟨rfl, _, h5⟩
    · rw [Rg.good_lok ⟨hT.cov, hT.hs⟩] at he; cases he
    · rw [hl] at h5
      exact .inl ⟨rfl, h1, h3, h5⟩
  · rw [hl] at h5 t
    exact .inr ⟨h1, h5, b, v, h6, t⟩
end Go.Proofs.YtffcnonhhfhlhaaDoor.Ws
