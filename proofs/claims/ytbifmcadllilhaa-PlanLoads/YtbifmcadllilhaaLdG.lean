import Derived.Test.YtbifmcadllilhaaLdF
namespace Go.Proofs.Ytbifmcadllilhaa.Rg
open Go.RowKit Go.Shelf Go.Sort
open Go.Proofs.Ytbifmcadllilhaa.It
set_option linter.unusedVariables false

theorem lok_no {M : List Sg} {k : Nat} {s : Sg} {n : Nat} (h : Lok M n) (hk : k < n) (hs : M[k]? = some s) (hf : flt (lays [] (M.take k)) s ≠ 0) : False := hf (h k hk s hs)
/-- the document's code, of what its Fault says -/
def refC (lim : Int) (M : List Sg) (f : Int) : Int := if f ≠ 0 then f else if lim < ((lays [] M).length : Int) then 61 else 0
/-- both answer the same -/
theorem code_same {w w' : World} {lim : Int} {M : List Sg} {p : Value} {i c p' f : Int} (h : Lrs w w' lim M p i c) (g : Frs M p' f) : c = refC lim M f := by
  unfold refC
  rcases h with ⟨_, k, s, h1, h2, h3, h4, _⟩ | ⟨_, h1, _, h2⟩ | ⟨h0, _, h1, h2, h3, _⟩
  · have hk : k < M.length := (List.getElem?_eq_some_iff.1 h2).1
    rcases g with ⟨k', s', g1, g2, g3, g4, _⟩ | ⟨g1, _⟩ | ⟨_, g1, _⟩
    · have hk' : k' < M.length := (List.getElem?_eq_some_iff.1 g2).1
      have e : k = k' := by
        rcases Nat.lt_trichotomy k k' with l | l | l
        · exact (lok_no g1 l h2 (by rw [h3]; exact h4)).elim
        · exact l
        · exact (lok_no h1 l g2 (by rw [g3]; exact g4)).elim
      subst e
      rw [h2] at g2
      cases g2
      rw [if_pos g4, ← g3, h3]
    · exact (lok_no g1 hk h2 (by rw [h3]; exact h4)).elim
    · exact (lok_no g1 hk h2 (by rw [h3]; exact h4)).elim
  · rcases g with ⟨k', s', g1, g2, g3, g4, _⟩ | ⟨g1, g2, g3, _⟩ | ⟨g0, g1, g2, _⟩
    · exact (lok_no h1 (List.getElem?_eq_some_iff.1 g2).1 g2 (by rw [g3]; exact g4)).elim
    · rcases h2 with ⟨rfl, _⟩ | ⟨_, h2, _⟩
      · rw [if_pos (by omega), g2]
      · rw [g3] at h2; cases h2
    · rcases h2 with ⟨_, h2⟩ | ⟨rfl, _, h3⟩
      · rw [g2] at h2; cases h2
      · rw [if_neg (by omega), if_pos h3]
  · rcases g with ⟨k', s', g1, g2, g3, g4, _⟩ | ⟨g1, g2, g3, _⟩ | ⟨g0, g1, g2, _⟩
    · exact (lok_no h1 (List.getElem?_eq_some_iff.1 g2).1 g2 (by rw [g3]; exact g4)).elim
    · rw [g3] at h2; cases h2
    · rw [if_neg (by omega), if_neg (by omega), h0]

set_option maxRecDepth 100000 in
set_option maxHeartbeats 1000000 in
theorem load_lim (w : World) (ad : Option Addr) (n cap : Nat) (lim : Int) (hl : ¬ (1 ≤ lim ∧ lim ≤ 8192)) :
    Calls Try.prog 56 #[.slice ad n cap, .int .i64 lim] w fun e w' => e = .returned (.tuple #[.pointer none, .int .i64 0, .int .i64 63]) ∧ Kp Nu w w' := by
  have LI := limit_bad lim w hl
  clear hl
  go_enter Try.func56, Try.ntmps56
  go_wp2_with fail
  refine LI.mono ?_; rintro e w1 ⟨rfl, hw1⟩
  obtain rfl := hw1.symm
  clear LI hw1
  go_wp2
  go_ret3
  exact ⟨rfl, Kp.refl _ _⟩
/-- what Load answers -/
def Lrt (w w' : World) (lim : Int) (M : List Sg) (p : Value) (c : Int) : Prop := (¬ (1 ≤ lim ∧ lim ≤ 8192) ∧ p = .pointer none ∧ c = 63) ∨ ((1 ≤ lim ∧ lim ≤ 8192) ∧ ∃ i, Lrs w w' lim M p i c)
theorem Lrt.ptr {w w' : World} {lim : Int} {M : List Sg} {p : Value} {c : Int} (h : Lrt w w' lim M p c) : (p = .pointer none ∧ c ≠ 0) ∨ (c = 0 ∧ ∃ b, p = .pointer (some ⟨b, 0, none⟩)) := by
  rcases h with ⟨_, h1, h2⟩ | ⟨_, i, ⟨h1, _, _, _, _, _, h2, _⟩ | ⟨h1, _, _, ⟨h2, _⟩ | ⟨h2, _⟩⟩ | ⟨h1, _, _, _, _, b, v, h2, _⟩⟩
  · exact .inl ⟨h1, by omega⟩
  · exact .inl ⟨h1, h2⟩
  · exact .inl ⟨h1, by omega⟩
  · exact .inl ⟨h1, by omega⟩
  · exact .inr ⟨h1, b, h2⟩
set_option maxRecDepth 100000 in
set_option maxHeartbeats 1000000 in
theorem Load_any (w : World) (u : Value) (M : List Sg) (hrd : Rz w u M) (hb : ∀ s ∈ M, SgB s) (hM : M.length ≤ 5864062014634) (lim : Int) :
    Calls Try.prog 32 #[u, .int .i64 lim] w fun e w' => ∃ p c, e = .returned (.tuple #[p, .int .i64 c]) ∧ Lrt w w' lim M p c ∧ Kp Nu w w' := by
  obtain ⟨ad, cap, hu⟩ := hrd.slice
  by_cases hl : 1 ≤ lim ∧ lim ≤ 8192
  · have LO := load_any w u M hrd hb hM lim hl.1 hl.2
    generalize M.length = N at hu hM
    subst hu
    clear hrd hb
    go_enter Try.func32, Try.ntmps32
    go_wp2_with fail
    refine LO.mono ?_; rintro e w2 ⟨p, i, c, rfl, hL, hk⟩
    have HL := hide (And.intro hL hk)
    clear LO hL hk
    go_wp2
    go_ret2
    exact ⟨_, _, rfl, .inr ⟨hl, i, HL.out.1⟩, HL.out.2⟩
  · generalize M.length = N at hu hM
    subst hu
    have LO := load_lim w ad N cap lim hl
    clear hrd hb
    go_enter Try.func32, Try.ntmps32
    go_wp2_with fail
    refine LO.mono ?_; rintro e w2 ⟨rfl, hk⟩
    have HL := hide hk
    clear LO hk
    go_wp2
    go_ret2
    exact ⟨_, _, rfl, .inl ⟨hl, rfl, rfl⟩, HL.out⟩
end Go.Proofs.Ytbifmcadllilhaa.Rg
