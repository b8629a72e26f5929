import Derived.Test.YtffcnonhhfhlhaaDoorItA
namespace Go.Proofs.YtffcnonhhfhlhaaDoor.Rg
set_option linter.unusedVariables false

@[ext] structure Sg where
  lo : Int
  hi : Int
  h : Int

/-- a list of segments that holds each key from a to b - 1 once -/
def Cov : Int → List Sg → Int → Prop
  | a, [], b => a = b
  | a, s :: r, b => s.lo = a ∧ a ≤ s.hi ∧ Cov (s.hi + 1) r b
/-- no two neighbours of one host -/
def Alt : List Sg → Prop
  | [] => True
  | [_] => True
  | s :: t :: r => s.h ≠ t.h ∧ Alt (t :: r)
def ow : List Sg → Int → Int
  | [], _ => 255
  | s :: r, k => if k ≤ s.hi then s.h else ow r k
def plc : List Sg → Int → Nat
  | [], _ => 0
  | s :: r, k => if k ≤ s.hi then 0 else plc r k + 1
def cutS (lo hi : Int) (s : Sg) : Sg := ⟨max s.lo lo, min s.hi hi, s.h⟩
def tk (lo hi : Int) : List Sg → List Sg
  | [] => []
  | s :: r => if hi < s.lo then [] else cutS lo hi s :: tk lo hi r
def lay : List Sg → Sg → List Sg
  | [], s => [s]
  | [t], s => if t.h = s.h then [⟨t.lo, s.hi, t.h⟩] else [t, s]
  | t :: u :: r, s => t :: lay (u :: r) s
def lays (A R : List Sg) : List Sg := R.foldl lay A
def lastH : List Sg → Option Int
  | [] => none
  | [t] => some t.h
  | _ :: u :: r => lastH (u :: r)

theorem cov_le : ∀ {L : List Sg} {a b : Int}, Cov a L b → a ≤ b
  | [], a, b, h => by have : a = b := h; omega
  | s :: r, a, b, h => by
    obtain ⟨h1, h2, h3⟩ := h
    have := cov_le h3
    omega
theorem cov_mem : ∀ {L : List Sg} {a b : Int}, Cov a L b → ∀ s ∈ L, a ≤ s.lo ∧ s.lo ≤ s.hi ∧ s.hi < b
  | [], a, b, h => by simp
  | t :: r, a, b, h => by
    obtain ⟨h1, h2, h3⟩ := h
    have := cov_le h3
    intro s hs
    rcases List.mem_cons.1 hs with rfl | hs
    · omega
    · have := cov_mem h3 s hs
      omega
theorem cov_append : ∀ {L R : List Sg} {a m b : Int}, Cov a L m → Cov m R b → Cov a (L ++ R) b
  | [], R, a, m, b, h, k => by have e : a = m := h; subst e; exact k
  | s :: r, R, a, m, b, h, k => ⟨h.1, h.2.1, cov_append h.2.2 k⟩
theorem ow_left : ∀ {L : List Sg} (R : List Sg) {a m k : Int}, Cov a L m → a ≤ k → k < m → ow (L ++ R) k = ow L k
  | [], R, a, m, k, h, ha, hk => by have e : a = m := h; omega
  | s :: r, R, a, m, k, h, ha, hk => by
    simp only [List.cons_append, ow]
    by_cases e : k ≤ s.hi
    · rw [if_pos e, if_pos e]
    · rw [if_neg e, if_neg e]; exact ow_left R h.2.2 (by omega) hk
theorem ow_right : ∀ {L : List Sg} (R : List Sg) {a m k : Int}, Cov a L m → m ≤ k → ow (L ++ R) k = ow R k
  | [], R, a, m, k, h, hk => rfl
  | s :: r, R, a, m, k, h, hk => by
    have := cov_le h.2.2
    simp only [List.cons_append, ow]
    rw [if_neg (by omega)]; exact ow_right R h.2.2 hk

theorem plc_facts : ∀ {L : List Sg} {a b k : Int}, Cov a L b → a ≤ k → k < b → ∃ s, L[plc L k]? = some s ∧ s.lo ≤ k ∧ k ≤ s.hi ∧ s.h = ow L k ∧ plc L k < L.length
  | [], a, b, k, h, ha, hb => by have e : a = b := h; omega
  | s :: r, a, b, k, h, ha, hb => by
    simp only [plc, ow]
    by_cases e : k ≤ s.hi
    · rw [if_pos e, if_pos e]; exact ⟨s, rfl, by have := h.1; omega, e, rfl, by simp⟩
    · rw [if_neg e, if_neg e]
      obtain ⟨t, h1, h2, h3, h4, h5⟩ := plc_facts h.2.2 (k := k) (by omega) hb
      exact ⟨t, by simpa using h1, h2, h3, h4, by simp; omega⟩
theorem plc_mono : ∀ {L : List Sg} {a b j k : Int}, Cov a L b → j ≤ k → plc L j ≤ plc L k
  | [], a, b, j, k, h, hjk => by simp [plc]
  | s :: r, a, b, j, k, h, hjk => by
    simp only [plc]
    have := plc_mono h.2.2 hjk
    split <;> split <;> omega
theorem plc_first {L : List Sg} {a b : Int} (h : Cov a L b) : plc L a = 0 := by
  cases L with
  | nil => rfl
  | cons s r => simp only [plc]; rw [if_pos h.2.1]
theorem plc_last : ∀ {L : List Sg} {a b : Int}, Cov a L b → a < b → plc L (b - 1) + 1 = L.length
  | [], a, b, h, hab => by have e : a = b := h; omega
  | s :: r, a, b, h, hab => by
    simp only [plc]
    have h1 := cov_le h.2.2
    by_cases e : s.hi + 1 < b
    · rw [if_neg (by omega)]
      have := plc_last h.2.2 e
      simp; omega
    · rw [if_pos (by omega)]
      cases r with
      | nil => rfl
      | cons t r => obtain ⟨h2, h3, h4⟩ := h.2.2; have := cov_le h4; omega

theorem tk_stop {L : List Sg} {a b z y : Int} (h : Cov a L b) (hy : y < a) : tk z y L = [] := by
  cases L with
  | nil => rfl
  | cons s r => simp only [tk]; rw [if_pos (by have := h.1; omega)]
theorem tk_id : ∀ {L : List Sg} {a b z : Int}, Cov a L b → z ≤ a → tk z (b - 1) L = L
  | [], a, b, z, h, hz => rfl
  | s :: r, a, b, z, h, hz => by
    have h1 := cov_le h.2.2
    have h2 := h.1
    have h3 := h.2.1
    simp only [tk]
    rw [if_neg (by omega), tk_id h.2.2 (by omega)]
    congr 1
    ext
    · simp [cutS]; omega
    · simp [cutS]; omega
    · rfl
/-- the part of a list below m -/
theorem tk_low : ∀ {L : List Sg} {a b z m : Int}, Cov a L b → z ≤ a → a ≤ m → m ≤ b →
    Cov a (tk z (m - 1) L) m ∧ (∀ k, a ≤ k → k < m → ow (tk z (m - 1) L) k = ow L k) ∧ (Alt L → Alt (tk z (m - 1) L)) ∧ (a < m → (tk z (m - 1) L).length = plc L (m - 1) + 1 ∧ lastH (tk z (m - 1) L) = some (ow L (m - 1)))
  | [], a, b, z, m, h, hz, ha, hb => by
    have e : a = b := h
    have e2 : a = m := by omega
    exact ⟨e2, fun k h1 h2 => by omega, fun _ => trivial, fun h => by omega⟩
  | s :: r, a, b, z, m, h, hz, ha, hb => by
    obtain ⟨h1, h2, h3⟩ := h
    by_cases e : m - 1 < s.lo
    · have e2 : a = m := by omega
      simp only [tk]; rw [if_pos e]
      exact ⟨e2, fun k h1 h2 => by omega, fun _ => trivial, fun h => by omega⟩
    · have ec : cutS z (m - 1) s = ⟨a, min s.hi (m - 1), s.h⟩ := by
        ext
        · simp [cutS]; omega
        · rfl
        · rfl
      simp only [tk]; rw [if_neg e, ec]
      by_cases e3 : s.hi + 1 ≤ m
      · obtain ⟨i1, i2, i3, i4⟩ := tk_low (z := z) h3 (by omega) e3 hb
        have em : min s.hi (m - 1) = s.hi := by omega
        rw [em]
        refine ⟨⟨rfl, h2, i1⟩, fun k hk1 hk2 => ?_, fun hA => ?_, fun hm => ?_⟩
        · simp only [ow]
          by_cases e4 : k ≤ s.hi
          · rw [if_pos e4, if_pos e4]
          · rw [if_neg e4, if_neg e4]; exact i2 k (by omega) hk2
        · cases r with
          | nil => exact trivial
          | cons t r =>
            have i3' := i3 hA.2
            simp only [tk] at i3' ⊢
            by_cases e5 : m - 1 < t.lo
            · rw [if_pos e5]; exact trivial
            · rw [if_neg e5] at i3' ⊢; exact ⟨hA.1, i3'⟩
        · by_cases e5 : s.hi + 1 < m
          · obtain ⟨j1, j2⟩ := i4 e5
            simp only [plc, ow]
            rw [if_neg (by omega), if_neg (by omega)]
            refine ⟨by simp [j1], ?_⟩
            generalize hT : tk z (m - 1) r = T at *
            cases T with
            | nil => simp at j1
            | cons x T => exact j2
          · have e6 : tk z (m - 1) r = [] := tk_stop h3 (by omega)
            rw [e6]
            simp only [plc, ow]
            rw [if_pos (by omega), if_pos (by omega)]
            exact ⟨rfl, rfl⟩
      · have e6 : tk z (m - 1) r = [] := tk_stop h3 (by omega)
        have em : min s.hi (m - 1) = m - 1 := by omega
        rw [e6, em]
        refine ⟨⟨rfl, by simp only; omega, show m - 1 + 1 = m by omega⟩, fun k hk1 hk2 => ?_, fun _ => trivial, fun hm => ?_⟩
        · simp only [ow]
          rw [if_pos (by omega), if_pos (by omega)]
        · simp only [plc, ow]
          rw [if_pos (by omega), if_pos (by omega)]
          exact ⟨rfl, rfl⟩
def headH : List Sg → Option Int
  | [] => none
  | t :: _ => some t.h
/-- the part of a list from q on -/
theorem tk_high : ∀ {L : List Sg} {a b q : Int}, Cov a L b → a ≤ q → q < b →
    ∃ T, tk q (b - 1) (L.drop (plc L q)) = T ∧ Cov q T b ∧ (∀ k, q ≤ k → ow T k = ow L k) ∧ (Alt L → Alt T) ∧ T.length + plc L q = L.length ∧ headH T = some (ow L q)
  | [], a, b, q, h, ha, hb => by have e : a = b := h; omega
  | s :: r, a, b, q, h, ha, hb => by
    obtain ⟨h1, h2, h3⟩ := h
    have hle := cov_le h3
    simp only [plc]
    by_cases e : q ≤ s.hi
    · rw [if_pos e]
      simp only [List.drop_zero, tk]
      rw [if_neg (by omega), tk_id h3 (by omega)]
      have ec : cutS q (b - 1) s = ⟨q, s.hi, s.h⟩ := by
        ext
        · simp [cutS]; omega
        · simp [cutS]; omega
        · rfl
      rw [ec]
      refine ⟨_, rfl, ⟨rfl, e, h3⟩, fun k hk => rfl, fun hA => ?_, by simp, ?_⟩
      · cases r with
        | nil => exact trivial
        | cons t r => exact hA
      · simp only [headH, ow]; rw [if_pos e]
    · rw [if_neg e]
      obtain ⟨T, j0, j1, j2, j3, j4, j5⟩ := tk_high h3 (q := q) (by omega) hb
      refine ⟨T, by simpa using j0, j1, fun k hk => ?_, fun hA => ?_, by simp; omega, ?_⟩
      · rw [j2 k hk]; simp only [ow]; rw [if_neg (by omega)]
      · cases r with
        | nil => exact j3 trivial
        | cons t r => exact j3 hA.2
      · rw [j5]; simp only [ow]; rw [if_neg e]

theorem lay_last : ∀ (A : List Sg) (s : Sg), lastH (lay A s) = some s.h
  | [], s => rfl
  | [t], s => by simp only [lay]; split <;> simp_all [lastH]
  | t :: u :: r, s => by
    have := lay_last (u :: r) s
    simp only [lay]
    generalize hX : lay (u :: r) s = X at *
    cases X with
    | nil => simp [lastH] at this
    | cons x X => exact this
theorem lay_len : ∀ (A : List Sg) (s : Sg), (lay A s).length = A.length + (if lastH A = some s.h then 0 else 1)
  | [], s => by simp [lay, lastH]
  | [t], s => by simp only [lay, lastH, Option.some.injEq]; split <;> simp_all
  | t :: u :: r, s => by
    have h1 := lay_len (u :: r) s
    have e0 : lastH (t :: u :: r) = lastH (u :: r) := rfl
    rw [e0]
    show (lay (u :: r) s).length + 1 = (u :: r).length + 1 + _
    omega
theorem lay_ne (A : List Sg) (s : Sg) : lay A s ≠ [] := by
  intro e
  have := lay_last A s
  rw [e] at this; cases this
theorem lay_head : ∀ (t u : Sg) (r : List Sg) (s : Sg), ∃ y Y, lay (u :: r) s = y :: Y ∧ y.h = u.h
  | t, u, [], s => by
    simp only [lay]
    split
    · exact ⟨_, _, rfl, rfl⟩
    · exact ⟨_, _, rfl, rfl⟩
  | t, u, v :: r, s => ⟨_, _, rfl, rfl⟩
theorem lay_alt : ∀ (A : List Sg) (s : Sg), Alt A → Alt (lay A s)
  | [], s, h => trivial
  | [t], s, h => by
    simp only [lay]
    split
    · exact trivial
    · rename_i e; exact ⟨e, trivial⟩
  | t :: u :: r, s, h => by
    have ih := lay_alt (u :: r) s h.2
    obtain ⟨y, Y, e, e2⟩ := lay_head t u r s
    simp only [lay]
    rw [e] at ih ⊢
    exact ⟨by rw [e2]; exact h.1, ih⟩
theorem lay_cov : ∀ {A : List Sg} {a m b : Int} {s : Sg}, Cov a A m → s.lo = m → m ≤ s.hi → s.hi + 1 = b → Cov a (lay A s) b ∧ ∀ k, a ≤ k → k < b → ow (lay A s) k = if k < m then ow A k else s.h
  | [], a, m, b, s, h, h1, h2, h3 => by
    have e : a = m := h
    refine ⟨⟨by omega, by omega, h3⟩, fun k hk1 hk2 => ?_⟩
    rw [if_neg (by omega)]
    simp only [lay, ow]; rw [if_pos (by omega)]
  | [t], a, m, b, s, h, h1, h2, h3 => by
    obtain ⟨g1, g2, g3⟩ := h
    have g4 : t.hi + 1 = m := g3
    simp only [lay]
    split
    · rename_i e
      refine ⟨⟨g1, by simp only; omega, h3⟩, fun k hk1 hk2 => ?_⟩
      simp only [ow]
      rw [if_pos (by omega)]
      split
      · rw [if_pos (by omega)]
      · exact e
    · refine ⟨⟨g1, g2, ⟨by omega, by omega, h3⟩⟩, fun k hk1 hk2 => ?_⟩
      simp only [ow]
      by_cases e : k < m
      · rw [if_pos (by omega), if_pos e, if_pos (by omega)]
      · rw [if_neg (by omega), if_neg e, if_pos (by omega)]
  | t :: u :: r, a, m, b, s, h, h1, h2, h3 => by
    obtain ⟨g1, g2, g3⟩ := h
    obtain ⟨i1, i2⟩ := lay_cov g3 h1 h2 h3
    have g5 := cov_le g3
    refine ⟨⟨g1, g2, i1⟩, fun k hk1 hk2 => ?_⟩
    show ow (t :: lay (u :: r) s) k = if k < m then ow (t :: u :: r) k else s.h
    have e1 : ow (t :: lay (u :: r) s) k = if k ≤ t.hi then t.h else ow (lay (u :: r) s) k := rfl
    have e2 : ow (t :: u :: r) k = if k ≤ t.hi then t.h else ow (u :: r) k := rfl
    rw [e1, e2]
    by_cases e : k ≤ t.hi
    · rw [if_pos e, if_pos e, if_pos (by omega)]
    · rw [if_neg e, if_neg e]; exact i2 k (by omega) hk2
theorem lay_mem : ∀ {A : List Sg} {s x : Sg}, x ∈ lay A s → x.h = s.h ∨ ∃ y ∈ A, y.h = x.h
  | [], s, x, h => by simp [lay] at h; subst h; exact .inl rfl
  | [t], s, x, h => by
    simp only [lay] at h
    split at h
    · simp at h; subst h; exact .inr ⟨t, by simp, rfl⟩
    · simp at h
      rcases h with rfl | rfl
      · exact .inr ⟨x, by simp, rfl⟩
      · exact .inl rfl
  | t :: u :: r, s, x, h => by
    simp only [lay] at h
    rcases List.mem_cons.1 h with rfl | h
    · exact .inr ⟨x, by simp, rfl⟩
    · rcases lay_mem h with h | ⟨y, hy, e⟩
      · exact .inl h
      · exact .inr ⟨y, List.mem_cons_of_mem _ hy, e⟩

theorem lays_nil (A : List Sg) : lays A [] = A := rfl
theorem lays_cons (A R : List Sg) (s : Sg) : lays A (s :: R) = lays (lay A s) R := rfl
theorem lays_snoc (A R : List Sg) (s : Sg) : lays A (R ++ [s]) = lay (lays A R) s := by simp [lays]
theorem lays_alt : ∀ {R A : List Sg}, Alt A → Alt (lays A R)
  | [], A, h => h
  | s :: R, A, h => lays_alt (R := R) (lay_alt A s h)
theorem lays_cov : ∀ {R A : List Sg} {a m b : Int}, Cov a A m → Cov m R b → Cov a (lays A R) b ∧ ∀ k, a ≤ k → k < b → ow (lays A R) k = if k < m then ow A k else ow R k
  | [], A, a, m, b, hA, hR => by
    have e : m = b := hR
    subst e
    exact ⟨hA, fun k h1 h2 => by rw [if_pos h2]; rfl⟩
  | s :: R, A, a, m, b, hA, hR => by
    obtain ⟨h1, h2, h3⟩ := hR
    obtain ⟨i1, i2⟩ := lay_cov hA h1 h2 rfl
    obtain ⟨j1, j2⟩ := lays_cov (R := R) i1 h3
    have g5 := cov_le h3
    refine ⟨j1, fun k hk1 hk2 => ?_⟩
    rw [lays_cons, j2 k hk1 hk2]
    simp only [ow]
    by_cases e : k < s.hi + 1
    · rw [if_pos e, i2 k hk1 e]
      by_cases e2 : k < m
      · rw [if_pos e2, if_pos e2]
      · rw [if_neg e2, if_neg e2, if_pos (by omega)]
    · rw [if_neg e, if_neg (by omega), if_neg (by omega)]
theorem lays_len : ∀ {R A : List Sg}, Alt R → (lays A R).length + (if headH R = lastH A ∧ R ≠ [] then 1 else 0) = A.length + R.length
  | [], A, h => by simp [lays]
  | s :: R, A, h => by
    have hR : Alt R := by cases R with
      | nil => exact trivial
      | cons t R => exact h.2
    have ih := lays_len (R := R) (A := lay A s) hR
    have hne : ¬ (headH R = lastH (lay A s) ∧ R ≠ []) := by
      rw [lay_last]
      cases R with
      | nil => simp
      | cons t R => intro e; simp only [headH, Option.some.injEq] at e; exact h.1 e.1.symm
    rw [if_neg hne] at ih
    rw [lays_cons]
    have h1 := lay_len A s
    rw [List.length_cons]
    by_cases e : lastH A = some s.h
    · rw [if_pos e] at h1
      rw [if_pos (show headH (s :: R) = lastH A ∧ s :: R ≠ [] from ⟨e.symm, by simp⟩)]; omega
    · rw [if_neg e] at h1
      rw [if_neg (show ¬ (headH (s :: R) = lastH A ∧ s :: R ≠ []) from fun x => e x.1.symm)]; omega
theorem lays_le : ∀ (R A : List Sg), (lays A R).length ≤ A.length + R.length
  | [], A => by simp [lays]
  | s :: R, A => by
    have ih := lays_le R (lay A s)
    have h1 := lay_len A s
    rw [lays_cons]
    simp only [List.length_cons]
    split at h1 <;> omega
theorem lays_mem : ∀ {R A : List Sg} {x : Sg}, x ∈ lays A R → ∃ y ∈ A ++ R, y.h = x.h
  | [], A, x, h => ⟨x, by rw [lays_nil] at h; simpa using h, rfl⟩
  | s :: R, A, x, h => by
    obtain ⟨y, hy, e⟩ := lays_mem (R := R) (A := lay A s) h
    rcases List.mem_append.1 hy with hy | hy
    · rcases lay_mem hy with h1 | ⟨z, hz, e2⟩
      · exact ⟨s, by simp, by rw [← e, h1]⟩
      · exact ⟨z, by simp [hz], by rw [e2, e]⟩
    · exact ⟨y, by simp [hy], e⟩
theorem tk_mem : ∀ {L : List Sg} {lo hi : Int} {x : Sg}, x ∈ tk lo hi L → ∃ y ∈ L, y.h = x.h
  | [], lo, hi, x, h => by simp [tk] at h
  | s :: r, lo, hi, x, h => by
    simp only [tk] at h
    split at h
    · simp at h
    · rcases List.mem_cons.1 h with rfl | h
      · exact ⟨s, by simp, rfl⟩
      · obtain ⟨y, hy, e⟩ := tk_mem h
        exact ⟨y, List.mem_cons_of_mem _ hy, e⟩
theorem tk_len : ∀ (L : List Sg) (lo hi : Int), (tk lo hi L).length ≤ L.length
  | [], lo, hi => by simp [tk]
  | s :: r, lo, hi => by
    have := tk_len r lo hi
    simp only [tk]
    split <;> simp <;> omega

/-- a table is fixed by whose each key is -/
theorem cov_unique : ∀ {L M : List Sg} {a b : Int}, Cov a L b → Cov a M b → Alt L → Alt M → (∀ k, a ≤ k → k < b → ow L k = ow M k) → L = M
  | [], [], a, b, _, _, _, _, _ => rfl
  | [], t :: M, a, b, h, k, _, _, _ => by
    have e : a = b := h
    have := cov_le k.2.2
    have := k.2.1
    omega
  | s :: L, [], a, b, h, k, _, _, _ => by
    have e : a = b := k
    have := cov_le h.2.2
    have := h.2.1
    omega
  | s :: L, t :: M, a, b, h, k, hA, kA, ho => by
    obtain ⟨h1, h2, h3⟩ := h
    obtain ⟨k1, k2, k3⟩ := k
    have hl := cov_le h3
    have kl := cov_le k3
    have e1 := ho a (Int.le_refl _) (by omega)
    simp only [ow] at e1
    rw [if_pos h2, if_pos k2] at e1
    have e2 : s.hi = t.hi := by
      rcases Int.lt_trichotomy s.hi t.hi with e | e | e
      · have e3 := ho (s.hi + 1) (by omega) (by omega)
        simp only [ow] at e3
        rw [if_neg (by omega), if_pos (by omega)] at e3
        cases L with
        | nil => have : s.hi + 1 = b := h3; omega
        | cons u L =>
          have h4 := h3.2.1
          simp only [ow] at e3
          rw [if_pos h4] at e3
          exact absurd (by rw [e1, e3]) hA.1
      · exact e
      · have e3 := ho (t.hi + 1) (by omega) (by omega)
        simp only [ow] at e3
        rw [if_pos (by omega), if_neg (by omega)] at e3
        cases M with
        | nil => have : t.hi + 1 = b := k3; omega
        | cons u M =>
          have h4 := k3.2.1
          simp only [ow] at e3
          rw [if_pos h4] at e3
          exact absurd (by rw [← e1, ← e3]) kA.1
    have e3 : s = t := by
      ext
      · omega
      · exact e2
      · exact e1
    subst e3
    congr 1
    refine cov_unique h3 k3 ?_ ?_ fun x hx1 hx2 => ?_
    · cases L with
      | nil => exact trivial
      | cons u L => exact hA.2
    · cases M with
      | nil => exact trivial
      | cons u M => exact kA.2
    · have := ho x (by omega) hx2
      simp only [ow] at this
      rwa [if_neg (by omega), if_neg (by omega)] at this
end Go.Proofs.YtffcnonhhfhlhaaDoor.Rg
