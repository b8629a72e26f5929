import Derived.Test.YtmlnglillgplfaaGreatCmC
import Derived.Test.YtmlnglillgplfaaGreatCrC
import Derived.Test.YtmlnglillgplfaaGreatCeA
namespace Go.Proofs.YtmlnglillgplfaaGreat.Cl
open Go.RowKit Go.Maps
set_option linter.unusedVariables false
/-- who has been seen, in memory -/
def snL (f : Nat → Bool) : List Value := (List.range 16).map (fun j => .bool (f j))
theorem sn_at (f : Nat → Bool) (j : Nat) (hj : j < 16) : (snL f).toArray[j]? = some (.bool (f j)) := by
  simp [snL, hj]
def upd (f : Nat → Bool) (t : Nat) : Nat → Bool := fun j => if j = t then true else f j
theorem sn_set (f : Nat → Bool) (t : Nat) (ht : t < 16) : (snL f).toArray.setIfInBounds t (.bool true) = (snL (upd f t)).toArray := by
  rw [List.setIfInBounds_toArray]
  congr 1
  apply List.ext_getElem?
  intro j
  rw [List.getElem?_set]
  by_cases e : t = j
  · subst e
    have : t < (snL f).length := by simpa [snL] using ht
    rw [if_pos rfl, if_pos this]
    have h2 := sn_at (upd f t) t ht
    simp only [List.getElem?_toArray] at h2
    rw [h2]
    simp [upd]
  · rw [if_neg e]
    by_cases hh : j < 16
    · have h1 := sn_at f j hh
      have h2 := sn_at (upd f t) j hh
      simp only [List.getElem?_toArray] at h1 h2
      rw [h1, h2]
      simp [upd, Ne.symm e]
    · rw [List.getElem?_eq_none (by simp [snL]; omega), List.getElem?_eq_none (by simp [snL]; omega)]
/-- how many -/
def cnt (f : Nat → Bool) : Nat → Nat
  | 0 => 0
  | n + 1 => cnt f n + (if f n then 1 else 0)
theorem cnt_le (f : Nat → Bool) : ∀ n, cnt f n ≤ n
  | 0 => Nat.le_refl _
  | n + 1 => by
    have := cnt_le f n
    simp only [cnt]
    split <;> omega
theorem cnt_upd_ge (f : Nat → Bool) (t : Nat) : ∀ n, n ≤ t → cnt (upd f t) n = cnt f n
  | 0, _ => rfl
  | n + 1, h => by
    simp only [cnt]
    rw [cnt_upd_ge f t n (by omega)]
    have : upd f t n = f n := by unfold upd; rw [if_neg (by omega)]
    rw [this]
theorem cnt_upd (f : Nat → Bool) (t : Nat) (hf : f t = false) : ∀ n, t < n → cnt (upd f t) n = cnt f n + 1
  | 0, h => by omega
  | n + 1, h => by
    simp only [cnt]
    by_cases e : t = n
    · subst e
      rw [cnt_upd_ge f t t (Nat.le_refl _), hf]
      simp [upd]
    · rw [cnt_upd f t hf n (by omega)]
      have : upd f t n = f n := by unfold upd; rw [if_neg (by omega)]
      rw [this]
      omega
def sn0 : Nat → Bool := fun j => decide (j = 0)
theorem cnt_zero : ∀ n, cnt sn0 (n + 1) = 1
  | 0 => rfl
  | n + 1 => by
    show cnt sn0 (n + 1) + _ = 1
    rw [cnt_zero n]
    have : sn0 (n + 1) = false := by simp [sn0]
    rw [this]
    rfl
/-- the hosts asked are those that have been seen -/
structure Sn (D : DataW Unit) (f : Nat → Bool) (H : Nat) (h : Nat) : Prop where
  map : IsMap D
  has : ∀ j : Nat, Maps.has D (Lit.int .u8 (j : Int)) = f j
  low : ∀ j, f j = true → j < H
  cnt : cnt f H = h + 1
theorem keyLit (x : Int) : WideAt.IsKeyLit (Lit.int .u8 x) := by simp [WideAt.IsKeyLit]
theorem Sn.put {D : DataW Unit} {f : Nat → Bool} {H h : Nat} (s : Sn D f H h) (t : Nat) (ht : t < H) (hf : f t = false) : Sn (D.put (Lit.int .u8 (t : Int)) (.agg [])) (upd f t) H (h + 1) := by
  refine ⟨s.map.put _ _, fun j => ?_, fun j hj => ?_, ?_⟩
  · by_cases e : j = t
    · subst e
      rw [has_put_same s.map (keyLit _)]
      simp [upd]
    · rw [has_put_other (by intro e2; simp only [Lit.int.injEq, true_and] at e2; omega), s.has j]
      simp [upd, e]
  · by_cases e : j = t
    · omega
    · exact s.low j (by simpa [upd, e] using hj)
  · rw [cnt_upd f t hf H ht, s.cnt]
theorem sn_first (H : Nat) (hH : 1 ≤ H) : Sn ((DataW.map []).put (Lit.int .u8 0) (.agg [])) sn0 H 0 := by
  refine ⟨isMap_empty.put _ _, fun j => ?_, fun j hj => ?_, ?_⟩
  · by_cases e : j = 0
    · subst e
      exact (has_put_same isMap_empty (keyLit _) _).trans (by simp [sn0])
    · rw [has_put_other (by intro e2; simp only [Lit.int.injEq, true_and] at e2; omega)]
      simp [sn0, e, Maps.has]
  · have : j = 0 := by simpa [sn0] using hj
    omega
  · obtain ⟨n, rfl⟩ : ∃ n, H = n + 1 := ⟨H - 1, by omega⟩
    exact cnt_zero n
theorem Sn.lt {D : DataW Unit} {f : Nat → Bool} {H h : Nat} (s : Sn D f H h) : h < H := by
  have := cnt_le f H
  have := s.cnt
  omega
/-- the client that is sent in circles -/
def Cs.cm (hosts : Int) (hb mb : Nat) (k key hi : Int) (v o : Sl) (has : Bool) (lim : Int) (a h : Int) : Cs := ⟨hosts, 5, 5, hb, k, key, hi, v, o, has, lim, 1, 1, 0, Sl.nil, Sl.nil, 0, a, h + 1, h, mb, 0, 0⟩
theorem Hnt.tb {B : Nat} {w : World} {hb : Nat} {L : List Rg.Sg} {lo hi to : Int} (h : Hnt B w hb L lo hi to) : ∃ tv L', Rg.Tb B w hb 64 tv L' := by
  obtain ⟨tv, L', hT, _⟩ := h
  exact ⟨tv, L', hT⟩
/-- what Take of a redirect answers, of such a client -/
theorem cm_take {w : World} {b B hb mb nb H h f' : Nat} {D : DataW Unit} {V O : List Int} {hosts k key hi lim a : Int} {v o : Sl} {has : Bool} {f : Nat → Bool} (hc : Cl w b (Cs.cm hosts hb mb k key hi v o has lim a h) nb D V O) (hT : ∃ tv L, Rg.Tb B w hb 64 tv L) (hBw : B ≤ w.heap.size) (sn : Sn D f H h) (hH : (H : Int) = hosts) (h16 : hosts ≤ 16) (k0 : 0 ≤ key) (k1 : key < 18446744073709551616) (a0 : 0 ≤ a) (a1 : a < hosts) (t : Nat) (ht : (t : Int) < hosts) (hne : ¬ (t : Int) = a) (hnb : nb ≤ h + 1) :
    Calls Tryz.prog 20 #[.pointer (some ⟨b, 0, none⟩), .int .u8 a, .agg #[.int .u8 7, .int .u64 1, .int .u64 key, .int .u64 key, .slice none 0 0, .slice none 0 0, .bool false, .int .u8 0, .int .u8 0, .int .u8 (t : Int), .int .u32 0, .int .u32 0, .int .u64 0, .int .u8 0, .slice none 0 0, .slice none 0 0, .slice none 0 0]] w fun e w' =>
      (f t = true ∧ e = .returned (.tuple #[.slice none 0 0, .int .i64 0]) ∧ Hid (Cl w' b (Cs.cm hosts hb mb k key hi v o has lim a h) nb D V O ∧ (∃ tv L, Rg.Tb B w' hb 64 tv L) ∧ Kp (fun i => i = b ∨ i = mb ∨ i = hb) w w'))
      ∨ (f t = false ∧ ∃ g v' o', e = .returned (.tuple #[.slice (some ⟨g, 0, none⟩) 1 1, .int .i64 0]) ∧ w'.heap[g]? = some (.cells (outC t (Cs.cm hosts hb mb k key hi v o has lim a h) v' o') 38 (0, 0)) ∧ Hid (w.heap.size ≤ g ∧ Cl w' b (Cs.cm hosts hb mb k key hi v o has lim t ((h + 1 : Nat) : Int)) (nb + 1) (D.put (Lit.int .u8 (t : Int)) (.agg [])) V O ∧ (∃ tv L, Rg.Tb B w' hb 64 tv L) ∧ Kp (fun i => i = b ∨ i = mb ∨ i = hb) w w')) := by
  obtain ⟨tv, L, hT⟩ := hT
  have hl := sn.lt
  refine (take_red hc hT hBw key key t (Int.le_refl _) (Int.le_refl _) k0 k1 (by omega) ht h16 hne (by show (0 : Int) ≤ (h : Int); omega) (by show (h : Int) ≤ 1000; omega) (by show (0 : Int) ≤ (h : Int) + 1; omega) (by show (h : Int) + 1 < 1000000; omega) (by omega) rfl (by show (1 : Int) ≤ 1; omega) (by show (1 : Int) < _; omega) a0 a1).mono ?_
  rintro e w' (⟨hr, rfl, hc', hn, hk⟩ | ⟨hr, g, v', o', rfl, hg, hgl, hv, ho, hc', hn, hk⟩)
  · exact .inl ⟨(sn.has t).symm.trans hr, rfl, hide ⟨hc', hn.tb, hk⟩⟩
  · refine .inr ⟨(sn.has t).symm.trans hr, g, v', o', rfl, hg, hide ⟨hgl, ?_, hn.tb, hk⟩⟩
    have e1 : (((h + 1 : Nat) : Int)) = (h : Int) + 1 := by omega
    rw [e1]
    exact hc'
end Go.Proofs.YtmlnglillgplfaaGreat.Cl
