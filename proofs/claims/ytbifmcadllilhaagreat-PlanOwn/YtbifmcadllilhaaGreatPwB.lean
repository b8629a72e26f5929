import Derived.Test.YtbifmcadllilhaaGreatPvM
import Derived.Test.YtbifmcadllilhaaGreatPvF
import Derived.StillTailTactics
namespace Go.Proofs.YtbifmcadllilhaaGreat.Rg
set_option linter.unusedVariables false
/-- the least number of pairs that must go -/
def few (q : Int) : List Int → Nat → Int
  | [], m => if m = 0 then 0 else 1099511627776
  | x :: r, 0 => few q r 0 + (if x > q then x - q else 0)
  | x :: r, m + 1 => if few q r m + (if x > q + 1 then x - q - 1 else 0) < few q r (m + 1) + (if x > q then x - q else 0) then few q r m + (if x > q + 1 then x - q - 1 else 0) else few q r (m + 1) + (if x > q then x - q else 0)
def ex (q : Int) (l : List Int) : Int := (l.map (fun x => if x > q then x - q else 0)).sum
def cn (q : Int) (l : List Int) : Nat := l.countP (fun x => decide (x > q))
theorem ex_cons (q x : Int) (l : List Int) : ex q (x :: l) = (if x > q then x - q else 0) + ex q l := by simp [ex]
theorem cn_cons (q x : Int) (l : List Int) : cn q (x :: l) = cn q l + (if x > q then 1 else 0) := by simp [cn, List.countP_cons]
theorem ex_nonneg (q : Int) : ∀ l : List Int, 0 ≤ ex q l
  | [] => by simp [ex]
  | x :: l => by have := ex_nonneg q l; rw [ex_cons]; split <;> omega
theorem cn_le (q : Int) (l : List Int) : cn q l ≤ l.length := List.countP_le_length
theorem cn_le_ex (q : Int) : ∀ l : List Int, (cn q l : Int) ≤ ex q l
  | [] => by simp [ex, cn]
  | x :: l => by
    have := cn_le_ex q l
    rw [ex_cons, cn_cons]
    split <;> omega
theorem few_val (q : Int) : ∀ (l : List Int) (m : Nat), ex q l < 1099511627776 → (m ≤ l.length → few q l m = ex q l - ((min m (cn q l) : Nat) : Int)) ∧ (l.length < m → 1099511627776 ≤ few q l m) ∧ few q l m ≤ 1099511627776 + ex q l
  | [], m, h => by
    refine ⟨fun hm => ?_, fun hm => ?_, ?_⟩
    · have e : m = 0 := by simpa using hm
      subst e
      simp [few, ex, cn]
    · have e : m ≠ 0 := by simp at hm; omega
      simp [few, e]
    · simp only [few, ex, List.map_nil, List.sum_nil]
      split <;> omega
  | x :: r, 0, h => by
    have h1 := ex_nonneg q r
    rw [ex_cons] at h
    have hr : ex q r < 1099511627776 := by
      have : 0 ≤ (if x > q then x - q else 0) := by split <;> omega
      omega
    obtain ⟨i1, i2, i3⟩ := few_val q r 0 hr
    have i1' := i1 (Nat.zero_le _)
    simp only [few, ex_cons]
    refine ⟨fun _ => ?_, fun hm => by simp at hm, by omega⟩
    rw [i1']
    simp
    omega
  | x :: r, m + 1, h => by
    have h1 := ex_nonneg q r
    have h2 := cn_le_ex q r
    have h3 := cn_le q r
    rw [ex_cons] at h
    have hd : 0 ≤ (if x > q then x - q else 0) := by split <;> omega
    have hr : ex q r < 1099511627776 := by omega
    obtain ⟨a1, a2, a3⟩ := few_val q r (m + 1) hr
    obtain ⟨b1, b2, b3⟩ := few_val q r m hr
    simp only [few]
    rw [ex_cons, cn_cons, List.length_cons]
    generalize few q r m = B at *
    generalize few q r (m + 1) = A at *
    generalize ex q r = E at *
    generalize cn q r = C at *
    generalize r.length = K at *
    by_cases c1 : x > q
    · rw [if_pos c1] at h hd
      rw [if_pos c1, if_pos c1]
      have d1 : (if x > q + 1 then x - q - 1 else 0) = x - q - 1 := by split <;> omega
      rw [d1]
      refine ⟨fun hm => ?_, fun hm => ?_, ?_⟩
      · have b1' := b1 (by omega)
        by_cases c2 : m + 1 ≤ K
        · have a1' := a1 c2
          split <;> omega
        · have a2' := a2 (by omega)
          split <;> omega
      · have a2' := a2 (by omega)
        have b2' := b2 (by omega)
        split <;> omega
      · split <;> omega
    · rw [if_neg c1] at h hd
      rw [if_neg c1, if_neg c1]
      have d1 : (if x > q + 1 then x - q - 1 else 0) = 0 := by split <;> omega
      rw [d1]
      refine ⟨fun hm => ?_, fun hm => ?_, ?_⟩
      · have b1' := b1 (by omega)
        by_cases c2 : m + 1 ≤ K
        · have a1' := a1 c2
          split <;> omega
        · have a2' := a2 (by omega)
          split <;> omega
      · have a2' := a2 (by omega)
        have b2' := b2 (by omega)
        split <;> omega
      · split <;> omega
/-- what is above, where the first r have one more -/
def spx (q : Int) : List Int → Nat → Int
  | [], _ => 0
  | x :: t, r => (if 0 < x - q - (if 0 < r then 1 else 0) then x - q - (if 0 < r then 1 else 0) else 0) + spx q t (r - 1)
theorem spx_val (q : Int) : ∀ (l : List Int) (r : Nat), spx q l r = ex q l - ((cn q (l.take r) : Nat) : Int)
  | [], r => by simp [spx, ex, cn]
  | x :: t, 0 => by
    have ih := spx_val q t 0
    simp only [spx, ex_cons, List.take_zero]
    simp only [List.take_zero] at ih
    rw [show (0 - 1 : Nat) = 0 by rfl, ih]
    simp only [Nat.lt_irrefl, if_false, cn, List.countP_nil]
    split <;> split <;> omega
  | x :: t, r + 1 => by
    have ih := spx_val q t r
    simp only [spx, ex_cons, List.take_succ_cons, cn_cons]
    rw [show (r + 1 - 1 : Nat) = r by omega, ih]
    simp only [Nat.succ_pos, if_true]
    by_cases c : x > q
    · rw [if_pos c, if_pos c]
      split <;> omega
    · rw [if_neg c, if_neg c]
      split <;> omega
theorem cn_none {q : Int} : ∀ {l : List Int}, (∀ y ∈ l, y ≤ q) → cn q l = 0 := fun {l} h => List.countP_eq_zero.2 (fun y hy => by have := h y hy; simp; omega)
theorem cn_take {q : Int} : ∀ (l : List Int) (r : Nat), l.Pairwise (fun a b => b ≤ a) → r ≤ l.length → cn q (l.take r) = min r (cn q l)
  | l, 0, _, _ => by simp [cn]
  | [], r + 1, _, h => by simp at h
  | x :: t, r + 1, hp, h => by
    obtain ⟨h1, h2⟩ := List.pairwise_cons.1 hp
    have ih := cn_take (q := q) t r h2 (by simpa using h)
    rw [List.take_succ_cons, cn_cons, cn_cons, ih]
    by_cases c : x > q
    · rw [if_pos c]; omega
    · rw [if_neg c]
      have e : cn q t = 0 := cn_none (fun y hy => by have := h1 y hy; omega)
      rw [e]; omega
theorem sp_sum : ∀ v : List Int, Pn.sp v = (v.map (fun x => if 0 < x then x else 0)).sum
  | [] => rfl
  | x :: r => by simp [Pn.sp, sp_sum r]
theorem spx_sum (q : Int) (F oo : Nat → Int) : ∀ (s : List Nat) (r : Nat), (∀ (p h : Nat), s[p]? = some h → F h = if 0 < oo h - q - (if p < r then 1 else 0) then oo h - q - (if p < r then 1 else 0) else 0) → (s.map F).sum = spx q (s.map oo) r
  | [], r, _ => by simp [spx]
  | h :: s, r, hF => by
    have h0 := hF 0 h (by simp)
    have ih := spx_sum q F oo s (r - 1) (fun p h' hp => by
      have := hF (p + 1) h' (by rw [List.getElem?_cons_succ]; exact hp)
      rw [this]
      have e : (p + 1 < r) ↔ (p < r - 1) := by omega
      simp only [e])
    simp only [List.map_cons, List.sum_cons, spx]
    rw [ih, h0]
/-- the surplus of all is as few as can be -/
theorem sp_few {o : List Int} (h0 : 0 < o.length) (hn : ∀ x ∈ o, 0 ≤ x) (hx : ex (o.sum / (o.length : Int)) o < 1099511627776) : Pn.sp ((List.range o.length).map (fun h => o.getD h 0 - Pn.tgt o h)) = few (o.sum / (o.length : Int)) o (o.sum % (o.length : Int)).toNat := by
  obtain ⟨s, hs⟩ := Pn.srt_exists o
  have hl : (0 : Int) < (o.length : Int) := by omega
  have m1 := Int.emod_nonneg o.sum (by omega : (o.length : Int) ≠ 0)
  have m2 := Int.emod_lt_of_pos o.sum hl
  obtain ⟨r, er⟩ : ∃ r : Nat, o.sum % (o.length : Int) = (r : Int) := ⟨(o.sum % (o.length : Int)).toNat, by omega⟩
  obtain ⟨q, eq⟩ : ∃ q, o.sum / (o.length : Int) = q := ⟨_, rfl⟩
  rw [eq] at hx
  rw [eq, er, Int.toNat_natCast]
  have hrl : r < o.length := by omega
  rw [(few_val q o r hx).1 (by omega)]
  rw [sp_sum, List.map_map]
  have e1 := Pn.perm_sum (hs.perm.symm.map ((fun x : Int => if 0 < x then x else 0) ∘ (fun h => o.getD h 0 - Pn.tgt o h)))
  rw [e1]
  have e2 := spx_sum q ((fun x : Int => if 0 < x then x else 0) ∘ (fun h => o.getD h 0 - Pn.tgt o h)) (fun h => o.getD h 0) s r (fun p h hp => by
    show (if 0 < o.getD h 0 - Pn.tgt o h then o.getD h 0 - Pn.tgt o h else 0) = _
    have ht : Pn.tgt o h = q + (if p < r then 1 else 0) := by
      unfold Pn.tgt
      rw [hs.place hp, eq, er]
      congr 1
      by_cases c : p < r
      · rw [if_pos c, if_pos (by omega)]
      · rw [if_neg c, if_neg (by omega)]
    have e : o.getD h 0 - Pn.tgt o h = o.getD h 0 - q - (if p < r then 1 else 0) := by rw [ht]; omega
    rw [e])
  rw [e2, spx_val]
  have hperm : (s.map (fun h => o.getD h 0)).Perm o := by
    have h1 := hs.perm.map (fun h => o.getD h 0)
    have h2 : (List.range o.length).map (fun h => o.getD h 0) = o := by
      apply List.ext_getElem?
      intro k
      by_cases hk : k < o.length
      · rw [List.getElem?_map, List.getElem?_range hk]
        show some (o.getD k 0) = _
        rw [List.getD_eq_getElem?_getD, List.getElem?_eq_getElem hk]
        rfl
      · rw [List.getElem?_eq_none (by simp; omega), List.getElem?_eq_none (by omega)]
    rw [h2] at h1
    exact h1
  have e3 : ex q (s.map (fun h => o.getD h 0)) = ex q o := Pn.perm_sum (hperm.map _)
  have e4 : cn q (s.map (fun h => o.getD h 0)) = cn q o := hperm.countP_eq _
  have hpw : (s.map (fun h => o.getD h 0)).Pairwise (fun a b => b ≤ a) := by
    rw [List.pairwise_map]
    exact hs.pair.imp (fun {a b} h => by
      simp only [Pn.ahd, decide_eq_true_eq] at h
      omega)
  rw [cn_take _ _ hpw (by rw [List.length_map, hs.len]; omega), e3, e4]
/-- the keys of a stretch are counted by their places -/
theorem count_places {P : Int → Bool} : ∀ (ks : List Int) (a b : Nat), a ≤ b → b ≤ ks.length → (∀ (j : Nat) x, ks[j]? = some x → (P x = true ↔ a ≤ j ∧ j < b)) → ks.countP P = b - a
  | [], a, b, h1, h2, _ => by simp at h2; simp; omega
  | y :: t, a, b, h1, h2, h => by
    have h0 := h 0 y (by simp)
    rw [List.length_cons] at h2
    rw [List.countP_cons]
    by_cases ha : a = 0
    · subst ha
      by_cases hb : b = 0
      · subst hb
        have ih := count_places (P := P) t 0 0 (Nat.le_refl _) (Nat.zero_le _) (fun j x hx => by
          have := h (j + 1) x (by rw [List.getElem?_cons_succ]; exact hx)
          rw [this]; omega)
        rw [ih, if_neg (by rw [h0]; omega)]
      · have ih := count_places (P := P) t 0 (b - 1) (Nat.zero_le _) (by omega) (fun j x hx => by
          have := h (j + 1) x (by rw [List.getElem?_cons_succ]; exact hx)
          rw [this]; omega)
        rw [ih, if_pos (by rw [h0]; omega)]
        omega
    · have ih := count_places (P := P) t (a - 1) (b - 1) (by omega) (by omega) (fun j x hx => by
        have := h (j + 1) x (by rw [List.getElem?_cons_succ]; exact hx)
        rw [this]; omega)
      rw [ih, if_neg (by rw [h0]; omega)]
      omega
def inr (m : Mv) (x : Int) : Bool := decide (m.lo ≤ x ∧ x ≤ m.hi)
/-- a move that is as it says -/
structure MvG (ks : List Int) (most : Int) (N : Nat) (m : Mv) : Prop where
  cnt : (ks.countP (inr m) : Int) = m.n
  n1 : 1 ≤ m.n
  nm : m.n ≤ most
  f0 : 0 ≤ m.f
  f1 : m.f < (N : Int)
  t0 : 0 ≤ m.t
  t1 : m.t < (N : Int)
/-- whose keys have gone gives nothing -/
def Gn (G : Int → Prop) (L : List Sg) (σ : Sig) : Prop := ∀ x, 0 ≤ x → x < 18446744073709551616 → G x → ∀ (h : Nat) v, ow L x = (h : Int) → σ.gv[h]? = some v → v ≤ 0
theorem Stp.good {ks : List Int} {L : List Sg} {σ σ' : Sig} {most : Int} {m : Mv} (hI : Inv ks L σ) (hr : Ris ks) (hk : ∀ x ∈ ks, 0 ≤ x ∧ x < 18446744073709551616) (hm : 1 ≤ most) (hs : Stp ks most σ m σ') (G : Int → Prop) (hG : Gn G L σ) :
    MvG ks most σ.gv.length m ∧ (∀ x, 0 ≤ x → x < 18446744073709551616 → inr m x = true → ¬ G x) ∧ Gn (fun x => G x ∨ inr m x = true) (asg L m.lo m.hi m.t) σ' ∧ Pn.sp σ.gv = Pn.sp σ'.gv + m.n := by
  have md := (hI.step hr hk hm hs).2
  have af := asg_facts hI.tab md.l0 md.lh md.h1 md.t0 md.t1
  obtain ⟨g, k, x, y, P0, p, n, a1, a2, a3, a4, a5, a6, a7, a8, a9, a10, a11, a12⟩ := hs
  have x0 := gst_pos a1 a3
  have y0 := gst_pos a2 a4
  obtain ⟨P, b1, b2, b3⟩ := hI.pil g x a3 x0
  rw [a5] at b1
  cases b1
  have hp := b2.each p (by simp)
  have c1 := hp.c1
  have le := hp.le
  have hmn : m.n ≤ (n : Int) := by rcases a10 with ⟨c1, c2, _⟩ | ⟨c1, c2, _⟩ <;> omega
  have hown : ∀ z, inr m z = true → ow L z = (g : Int) := fun z hz => by
    simp only [inr, decide_eq_true_eq] at hz
    have := md.own z hz.1 hz.2
    rw [this, a7]
  have hgl : g < σ.gv.length := (List.getElem?_eq_some_iff.1 a3).1
  have hkl : k < σ.tk.length := (List.getElem?_eq_some_iff.1 a4).1
  have llt := hI.lt
  refine ⟨⟨?_, md.n1, by omega, md.f0, by omega, md.t0, by omega⟩, fun z z0 z1 hz hGz => ?_, fun z z0 z1 hz h v hv hgv => ?_, ?_⟩
  · rcases a10 with ⟨d1, d2, d3, d4⟩ | ⟨d1, d2, d3, d4⟩
    · rw [count_places (P := inr m) ks p.a (p.a + p.c) (by omega) le (fun j z hz => by
        rw [← hp.k j z hz]
        simp only [inr, decide_eq_true_eq, d3, a9])]
      omega
    · rw [count_places (P := inr m) ks (p.a + p.c - n) (p.a + p.c) (by omega) le (fun j z hz => by
        simp only [inr, decide_eq_true_eq]
        have hkk := hp.k j z hz
        have kl := (hp.k _ m.lo d3).2 ⟨by omega, by omega⟩
        have lt : m.lo ≤ z ↔ p.a + p.c - n ≤ j := by
          constructor
          · intro h1
            rcases Nat.lt_or_ge j (p.a + p.c - n) with h2 | h2
            · obtain ⟨d, hd⟩ : ∃ d, p.a + p.c - n = j + d + 1 := ⟨p.a + p.c - n - j - 1, by omega⟩
              rw [hd] at d3
              have := hr.lt d j z m.lo hz d3
              omega
            · exact h2
          · intro h1
            exact hr.le h1 d3 hz
        rw [lt, a9]
        constructor
        · rintro ⟨q1, q2⟩
          have := hkk.1 ⟨by have := lt.2 q1; omega, q2⟩
          omega
        · rintro ⟨q1, q2⟩
          exact ⟨q1, (hkk.2 ⟨by omega, q2⟩).2⟩)]
      omega
  · have := hG z z0 z1 hGz g x (hown z hz) a3
    omega
  · have ez := af.2.1 z z0 z1
    rw [ez] at hv
    have hle : ∀ u, σ'.gv[h]? = some u → ∃ u', σ.gv[h]? = some u' ∧ u ≤ u' := fun u hu => by
      rw [a11] at hu
      by_cases e : g = h
      · subst e
        rw [List.getElem?_set_self hgl] at hu
        cases hu
        exact ⟨x, a3, by have := md.n1; omega⟩
      · rw [List.getElem?_set_ne e] at hu
        exact ⟨u, hu, Int.le_refl _⟩
    obtain ⟨u', hu', hu2⟩ := hle v hgv
    by_cases c : m.lo ≤ z ∧ z ≤ m.hi
    · rw [if_pos c, a8] at hv
      have e : k = h := by omega
      subst e
      rcases Int.lt_or_le 0 u' with q | q
      · exact absurd ⟨q, y0⟩ (hI.dis k u' y hu' a4)
      · omega
    · rw [if_neg c] at hv
      rcases hz with hz | hz
      · have := hG z z0 z1 hz h u' hv hu'
        omega
      · simp only [inr, decide_eq_true_eq] at hz
        exact absurd hz c
  · rw [a11, Pn.sp_set a3 x0 (by omega)]
    omega
/-- all moves are as they say, and no key goes twice -/
theorem Stps.good {ks : List Int} {most : Int} (hr : Ris ks) (hk : ∀ x ∈ ks, 0 ≤ x ∧ x < 18446744073709551616) (hm : 1 ≤ most) {σ σ1 : Sig} {ms : List Mv} (h : Stps ks most σ ms σ1) : ∀ {L : List Sg} {G : Int → Prop}, Inv ks L σ → Gn G L σ →
    (∀ (i : Nat) m, ms[i]? = some m → MvG ks most σ.gv.length m ∧ ∀ x ∈ ks, inr m x = true → ¬ G x ∧ ∀ (j : Nat) m', j < i → ms[j]? = some m' → inr m' x = false) ∧ Pn.sp σ.gv = Pn.sp σ1.gv + (ms.map (·.n)).sum := by
  induction h with
  | nil σ => exact fun hI hG => ⟨fun i m hi => by simp at hi, by simp⟩
  | @cons σ σ2 σ3 m ms a _ ih =>
    intro L G hI hG
    obtain ⟨g1, g2, g3, g4⟩ := a.good hI hr hk hm G hG
    have hI2 := (hI.step hr hk hm a).1
    obtain ⟨i1, i2⟩ := ih hI2 g3
    have el : σ2.gv.length = σ.gv.length := by
      obtain ⟨g, k, x, y, P0, p, n, _, _, _, _, _, _, _, _, _, _, a11, _⟩ := a
      rw [a11, List.length_set]
    rw [el] at i1
    refine ⟨fun i m' hi => ?_, by rw [g4, i2, List.map_cons, List.sum_cons]; omega⟩
    cases i with
    | zero =>
      simp only [List.getElem?_cons_zero, Option.some.injEq] at hi
      subst hi
      exact ⟨g1, fun x hx hin => ⟨g2 x (hk x hx).1 (hk x hx).2 hin, fun j m' hj => by omega⟩⟩
    | succ i =>
      rw [List.getElem?_cons_succ] at hi
      obtain ⟨q1, q2⟩ := i1 i m' hi
      refine ⟨q1, fun x hx hin => ?_⟩
      obtain ⟨q3, q4⟩ := q2 x hx hin
      refine ⟨fun hg => q3 (.inl hg), fun j m2 hj hm2 => ?_⟩
      cases j with
      | zero =>
        simp only [List.getElem?_cons_zero, Option.some.injEq] at hm2
        subst hm2
        cases hb : inr m x with
        | false => rfl
        | true => exact absurd (.inr hb) q3
      | succ j =>
        rw [List.getElem?_cons_succ] at hm2
        exact q4 j m2 (by omega) hm2
theorem cnt_sum_eq (N : Nat) : ∀ os : List Int, (∀ x ∈ os, 0 ≤ x ∧ x < (N : Int)) → ((List.range N).map (Pn.cnt os)).sum = (os.length : Int)
  | [], _ => by
    have e : (List.range N).map (Pn.cnt []) = (List.range N).map (fun _ => (0 : Int)) := List.map_congr_left (fun h _ => rfl)
    rw [e]
    have z : ∀ l : List Nat, (l.map (fun _ => (0 : Int))).sum = 0 := fun l => by
      induction l with
      | nil => rfl
      | cons a l ih => rw [List.map_cons, List.sum_cons, ih]; rfl
    rw [z]
    rfl
  | x :: os, h => by
    have e : (List.range N).map (Pn.cnt (x :: os)) = (List.range N).map (fun h => Pn.cnt os h + (if x = (h : Int) then 1 else 0)) := List.map_congr_left (fun h _ => by
      unfold Pn.cnt
      rw [List.filter_cons]
      by_cases c : x = (h : Int)
      · simp [c]
      · simp [c])
    rw [e, add_sum, one_sum]
    have := cnt_sum_eq N os (fun y hy => h y (by simp [hy]))
    have hx := h x (by simp)
    rw [List.length_cons, if_pos hx]
    omega
end Go.Proofs.YtbifmcadllilhaaGreat.Rg
namespace Go.Proofs.YtbifmcadllilhaaGreat.Rg
open Go.RowKit Go.Shelf Go.Sort
open Go.Proofs.YtbifmcadllilhaaGreat.It
set_option linter.unusedVariables false
theorem lds_nil (n : Nat) : Pn.lds n [] = List.replicate n 0 := by
  unfold Pn.lds
  rw [List.eq_replicate_iff]
  refine ⟨by simp, fun b hb => ?_⟩
  obtain ⟨q, _, e⟩ := List.mem_map.1 hb
  rw [← e]; rfl
theorem lds_set (a : List Int) {n q : Nat} (hq : q < n) : (Pn.lds n a).set q (Pn.cnt a q + 1) = Pn.lds n (a ++ [(q : Int)]) := by
  apply List.ext_getElem?
  intro j
  rw [List.getElem?_set, Pn.lds_len]
  unfold Pn.lds
  rw [List.getElem?_map, List.getElem?_map]
  by_cases hj : j < n
  · rw [List.getElem?_range hj]
    simp only [Option.map_some]
    rw [Pn.cnt_snoc]
    by_cases e : q = j
    · subst e
      rw [if_pos rfl, if_pos hq, if_pos rfl]
    · rw [if_neg e, if_neg (by omega), Int.add_zero]
  · rw [List.getElem?_eq_none (by simp; omega), if_neg (by omega)]
    rfl
theorem zero_rowB (f : Nat → Int) (N : Nat) : (madeCells (Value.int .i64 0).cells (N * 1)).toList = Pn.ics (fil f N 0) := by
  rw [fil_zero]
  unfold Pn.ics
  rw [List.map_replicate]
  simp only [madeCells, Value.cells]
  simp [Nat.mod_one, List.map_const']
set_option maxRecDepth 100000 in
set_option maxHeartbeats 2000000 in
theorem segAt73c (w : World) (u : Value) (L : List Sg) (lim : Int) (hu : Sgs w u L) (hT : Cov 0 L 18446744073709551616) (hl : L.length ≤ 100000) (key : Int) (k0 : 0 ≤ key) (k1 : key < 18446744073709551616) (s : Sg) (hs : L[plc L key]? = some s) :
    Calls Tryz.prog 11 #[.agg #[.int .i64 lim, u], .int .u64 key] w fun e w' => e = .returned (.agg #[.int .u64 s.lo, .int .u64 s.hi, .int .u8 s.h]) ∧ Kp Nu w w' := by
  have mixed : Tryz.prog.follows .mixedOrders = true := by kernel_rfl
  obtain ⟨ad, cap, e1⟩ := hu.slice
  obtain ⟨N, hN⟩ : ∃ N, L.length = N := ⟨_, rfl⟩
  rw [hN] at e1 hl
  have HN := hide hN
  obtain ⟨w1, hw1⟩ : ∃ w1, (w.alloc (.cells #[.int .i64 lim, u] 35)).alloc (.cells #[.int .u64 0, .int .u64 0, .int .u8 0] 38) = w1 := ⟨_, rfl⟩
  obtain ⟨K1, b1, b2⟩ := new_two w _ _ hw1
  have HK1 := hide K1
  have HB1 := hide b1
  have HB2 := hide b2
  obtain ⟨_, cb0⟩ := cell2' b1
  have HT := hide hT
  have HS := hide hs
  have HC := hide (hu.nu K1)
  have hpN : plc L key < N := by rw [← hN]; obtain ⟨_, _, _, _, _, e⟩ := plc_facts hT k0 k1; exact e
  have hNI : (N : Int) ≤ 100000 := by omega
  subst e1
  clear hu hN K1 b1 b2 hT hs
  go_enter Tryz.func11, Tryz.ntmps11
  go_wp2_with fail
  go_loopw [5] (fun i wr => ∃ k : Nat, i = .int .i64 (k : Int) ∧ k ≤ plc L key ∧ wr = w1) (fun i _ => N - (intOf i).toNat)
  case atStart => exact ⟨0, rfl, Nat.zero_le _, rfl⟩
  case round =>
    obtain ⟨k, rfl, hk, rfl⟩ := hrel
    have hkN : k < N := by omega
    have hkL : k < L.length := by rw [HN.out]; exact hkN
    obtain ⟨t, ht⟩ : ∃ t, L[k]? = some t := ⟨_, List.getElem?_eq_getElem hkL⟩
    obtain ⟨bb, oo, rfl, kk⟩ := HC.out.at_ ht
    obtain ⟨c0, c1, c2, hf⟩ := kk
    have hltI : (k : Int) < (N : Int) := by omega
    have hkz : (0 : Int) ≤ (k : Int) := by omega
    have etk : (k : Int).toNat = k := by omega
    have hiff := plc_iff (k := key) HT.out k t ht
    obtain ⟨s', hs', q1, q2, q3, q4⟩ := plc_facts (k := key) HT.out k0 k1
    clear q3 q4 hf
    rw [HS.out] at hs'
    obtain rfl := Option.some.inj hs'
    by_cases hkp : k = plc L key
    · subst hkp
      obtain rfl := Option.some.inj (ht.symm.trans HS.out)
      have f0 := free3 HB2.out 0
      have f1 := free3 HB2.out 1
      have f2 := free3 HB2.out 2
      obtain ⟨g0, g1, g2⟩ := cell3 HB2.out
      clear ht hs' hiff
      go_wp2
      have hb1 : (wr.setCell ⟨w.heap.size + 1, 0, none⟩ (.int .u64 t.lo)).heap[w.heap.size + 1]? = some (.cells #[.int .u64 t.lo, .int .u64 0, .int .u8 0] 38 (0, 0)) := set3 HB2.out 0 _
      have hb2 : ((wr.setCell ⟨w.heap.size + 1, 0, none⟩ (.int .u64 t.lo)).setCell ⟨w.heap.size + 1, 1, none⟩ (.int .u64 t.hi)).heap[w.heap.size + 1]? = some (.cells #[.int .u64 t.lo, .int .u64 t.hi, .int .u8 0] 38 (0, 0)) := set3 hb1 1 _
      have hb3 : (((wr.setCell ⟨w.heap.size + 1, 0, none⟩ (.int .u64 t.lo)).setCell ⟨w.heap.size + 1, 1, none⟩ (.int .u64 t.hi)).setCell ⟨w.heap.size + 1, 2, none⟩ (.int .u8 t.h)).heap[w.heap.size + 1]? = some (.cells #[.int .u64 t.lo, .int .u64 t.hi, .int .u8 t.h] 38 (0, 0)) := set3 hb2 2 _
      have z0 := (cell3 hb1).1
      have z1 := (cell3 hb2).2.1
      have z2 := (cell3 hb2).1
      obtain ⟨y0, y1, y2⟩ := cell3 hb3
      exact bodyPost_ret (v := .agg #[.int .u64 t.lo, .int .u64 t.hi, .int .u8 t.h]) (by simp [results, Tryz.results11, go_sem, y0, y1, y2]) rfl ⟨rfl, ((HK1.out.andSet _ _ (.inl (by simp))).andSet _ _ (.inl (by simp))).andSet _ _ (.inl (by simp))⟩
    · have hlt2 : k < plc L key := by omega
      have hgt : ¬ key ≤ t.hi := fun h => by have := hiff.1 h; omega
      have hlo : t.lo ≤ key := by
        have h1 := (cov_mem HT.out t (List.mem_of_getElem? ht)).2.1
        omega
      clear ht hs' hiff
      go_wp2
      exact ⟨⟨k + 1, by go_num, by omega, trivial⟩, by simp [intOf]; omega⟩
set_option maxRecDepth 100000 in
set_option maxHeartbeats 2000000 in
theorem lookup48 (w : World) (u : Value) (L : List Sg) (lim : Int) (hu : Sgs w u L) (hT : Cov 0 L 18446744073709551616) (hl : L.length ≤ 100000) (key : Int) (k0 : 0 ≤ key) (k1 : key < 18446744073709551616) :
    Calls Tryz.prog 12 #[.agg #[.int .i64 lim, u], .int .u64 key] w fun e w' => e = .returned (.int .u8 (ow L key)) ∧ Kp Nu w w' := by
  obtain ⟨s, hs, _, _, es, _⟩ := plc_facts hT k0 k1
  obtain ⟨ad, cap, e1⟩ := hu.slice
  obtain ⟨w1, hw1⟩ : ∃ w1, w.alloc (.cells #[.int .i64 lim, u] 35) = w1 := ⟨_, rfl⟩
  have K1 : Kp Nu w w1 := by rw [← hw1]; exact Kp.alloc _ _ _
  have b1 : w1.heap[w.heap.size]? = some (.cells #[.int .i64 lim, u] 35 (0, 0)) := by rw [← hw1]; exact heap_alloc_new w _
  obtain ⟨c0, c1⟩ := cell2' b1
  have SA := segAt73c w1 u L lim (hu.nu K1) hT hl key k0 k1 s hs
  rw [← es]
  have HK := hide K1
  generalize L.length = N at e1
  subst e1
  clear hu hT hl hs es K1 b1
  go_enter Tryz.func12, Tryz.ntmps12
  go_wp2_with fail
  refine SA.mono ?_; rintro e w2 ⟨rfl, hk2⟩
  obtain ⟨w3, hw3⟩ : ∃ w3, w2.alloc (.cells #[.int .u64 s.lo, .int .u64 s.hi, .int .u8 s.h] 38) = w3 := ⟨_, rfl⟩
  have K3 : Kp Nu w2 w3 := by rw [← hw3]; exact Kp.alloc _ _ _
  have b3 : w3.heap[w2.heap.size]? = some (.cells #[.int .u64 s.lo, .int .u64 s.hi, .int .u8 s.h] 38 (0, 0)) := by rw [← hw3]; exact heap_alloc_new w2 _
  obtain ⟨d0, d1, d2⟩ := cell3 b3
  have H3 := hide ((HK.out.andNu hk2).andNu K3)
  clear SA hk2 K3 b3 c0 c1
  go_wp2
  go_ret
  exact ⟨rfl, H3.out⟩
set_option maxRecDepth 100000 in
set_option maxHeartbeats 2000000 in
theorem counted23 (w : World) (n : Nat) (u ku : Value) (L : List Sg) (ks : List Int) (hu : Sgs w u L) (hT : Cov 0 L 18446744073709551616) (hh : ∀ s ∈ L, 0 ≤ s.h ∧ s.h < (n : Int)) (hl : L.length ≤ 100000) (hk : Us w ku ks) (hkr : ∀ x ∈ ks, 0 ≤ x ∧ x < 18446744073709551616) (hkl : ks.length ≤ 4096) (h1 : n ≤ 16) :
    Calls Tryz.prog 14 #[.int .i64 (n : Int), u, ku] w fun e w' => ∃ g, e = .returned (.slice (some ⟨g, 0, none⟩) n n) ∧ w'.ownsRow w.heap.size 3 1 (.slice (some ⟨g, 0, none⟩) n n) n (Pn.ics (Pn.lds n (ks.map (ow L)))) ∧ Kp Nu w w' := by
  have mixed : Tryz.prog.follows .mixedOrders = true := by kernel_rfl
  obtain ⟨ad, cap, e1⟩ := hu.slice
  obtain ⟨a1, c1, rfl, _, _⟩ := id hk
  obtain ⟨N, eN⟩ : ∃ N, ks.length = N := ⟨_, rfl⟩
  have HU := hide (And.intro hu (And.intro hT (And.intro hh (And.intro hl (And.intro hk (And.intro hkr eN))))))
  rw [eN] at hkl ⊢
  have hNI : (N : Int) ≤ 4096 := by omega
  have hnI : (n : Int) ≤ 16 := by omega
  generalize L.length = NL at e1
  subst e1
  clear hu hT hh hl hk hkr eN
  obtain ⟨z0, hzi, hz0, hz1, hz2⟩ := info_parts Pn.info3z
  go_enter Tryz.func14, Tryz.ntmps14
  go_wp2_with (at_make; refine wpList_make_full _ rfl _ _ 45 rfl w.heap.size 3 z0 _ 1 Tryz.underlying45 hzi hz0 hz1 _ _ _ _ n rfl rfl rfl rfl (by rw [hz2]; omega) (by unfold maxLen; omega) (Nat.le_refl _) ?_; intro w4 hrow4 hgr4)
  obtain ⟨w5, hw5⟩ : ∃ w5, w4.alloc (.cells #[.int .i64 0, .slice ad NL cap] 35) = w5 := ⟨_, rfl⟩
  rw [hw5]
  have K5 : Kp Nu w4 w5 := by rw [← hw5]; exact Kp.alloc _ _ _
  have b5 : w5.heap[w4.heap.size]? = some (.cells #[.int .i64 0, .slice ad NL cap] 35 (0, 0)) := by rw [← hw5]; exact heap_alloc_new w4 _
  have k04 := (Kp.of_grown hgr4).mono (T := Nu) (fun _ _ e => by cases e)
  rw [zero_rowB (Pn.cnt [])] at hrow4
  have hrow5 := own_keep hrow4 (fun g e => K5.block g (own_lt hrow4 e) (fun h => h))
  have hlt4 := own_lt hrow4 (g := w.heap.size) rfl
  have H5 := hide (And.intro hrow5 (And.intro (k04.andNu K5) b5))
  clear hrow4 hgr4 hrow5 K5 b5 k04 hw5
  go_loopw [9] (fun iv wr => ∃ i : Nat, iv = .int .i64 (i : Int) ∧ i ≤ N ∧ Hid (wr.ownsRow w.heap.size 3 1 (.slice (some ⟨w.heap.size, 0, none⟩) n n) n (Pn.ics (Pn.lds n ((ks.map (ow L)).take i))) ∧ Kp (fun g => g = w.heap.size) w5 wr)) (fun iv _ => N - (intOf iv).toNat)
  case atStart => exact ⟨0, rfl, Nat.zero_le _, hide ⟨by rw [List.take_zero, lds_nil, ← fil_zero (Pn.cnt [])]; exact H5.out.1, Kp.refl _ _⟩⟩
  case round =>
    obtain ⟨i, rfl, hi, hI⟩ := hrel
    have hi0 : (0 : Int) ≤ (i : Int) := by omega
    by_cases hlt : i < N
    · have hltI : (i : Int) < (N : Int) := by omega
      have eti : (i : Int).toNat = i := by omega
      obtain ⟨hrow, kk⟩ := hI.out
      obtain ⟨hu, hT, hh, hl, hk, hkr, eN⟩ := HU.out
      obtain ⟨_, k05, b5⟩ := H5.out
      have kwr : Kp Nu w wr := k05.trans kk (fun g hg e => by have e2 : g = w.heap.size := e; omega)
      obtain ⟨x, hx⟩ : ∃ x, ks[i]? = some x := ⟨_, List.getElem?_eq_getElem (by rw [eN]; exact hlt)⟩
      have hxr := hkr x (List.mem_of_getElem? hx)
      have hkw := hk.nu kwr
      rw [eN] at hkw
      obtain ⟨ax, cx, eax, _, hat⟩ := hkw
      rw [eN] at eax
      simp only [Value.slice.injEq] at eax
      obtain ⟨rfl, _, ecx⟩ := eax
      obtain ⟨ba, hba, y0⟩ := hat i x hx
      subst hba
      have bR := (kk.block w4.heap.size (blk_lt b5) (fun e => by have e2 : w4.heap.size = w.heap.size := e; omega)).trans b5
      obtain ⟨y1, y2⟩ := cell2' bR
      have LK := lookup48 wr.drew (.slice ad NL cap) L 0 (hu.nu kwr.drew) hT hl x hxr.1 hxr.2
      obtain ⟨sx, hsx, _, _, esx, _⟩ := plc_facts hT hxr.1 hxr.2
      have hb := hh sx (List.mem_of_getElem? hsx)
      rw [esx] at hb
      obtain ⟨q, eq⟩ : ∃ q : Nat, ow L x = (q : Int) := ⟨(ow L x).toNat, by omega⟩
      rw [eq] at LK hb
      have hqn : q < n := by omega
      have hqI : (q : Int) < (n : Int) := by omega
      have hq0 : (0 : Int) ≤ (q : Int) := by omega
      have etq : (q : Int).toNat = q := by omega
      have ecv : IntKind.i64.wrap (q : Int) = (q : Int) := by rw [IntKind.wrap_i64]; omega
      have htk : (ks.map (ow L)).take (i + 1) = (ks.map (ow L)).take i ++ [(q : Int)] := by
        rw [List.take_add_one, List.getElem?_map, hx]
        show _ ++ [ow L x] = _
        rw [eq]
      obtain ⟨c, hc⟩ : ∃ c, Pn.cnt ((ks.map (ow L)).take i) q = c := ⟨_, rfl⟩
      have hcl := Pn.cnt_le ((ks.map (ow L)).take i) q
      rw [hc] at hcl
      have hcl2 : ((ks.map (ow L)).take i).length ≤ i := by rw [List.length_take]; omega
      have hc5 : c ≤ 4096 := by omega
      have hc0 : 0 ≤ c := hcl.1
      have ew : IntKind.i64.wrap (c + 1) = c + 1 := by rw [IntKind.wrap_i64]; omega
      have hget : (Pn.lds n ((ks.map (ow L)).take i))[q]? = some c := by unfold Pn.lds; rw [List.getElem?_map, List.getElem?_range hqn]; show some _ = _; rw [hc]
      have HI := hide (And.intro hrow (And.intro kk (And.intro htk (And.intro hc hget))))
      clear hrow kk hu hT hh hl hk hkr eN k05 b5 kwr hx hxr hat bR hsx esx hb eq htk hc hcl hcl2 hget ecx
      go_wp2_with fail
      go_still_tail 5, mixed
      go_wp2_with fail
      refine LK.mono ?_; rintro e w6 ⟨rfl, hk6'⟩
      have hk6 : Kp Nu wr w6 := (Kp.refl Nu wr).drew.andNu hk6'
      clear hk6'
      obtain ⟨hrow, kk, htk, hc, hget⟩ := HI.out
      have hrow6 := own_keep hrow (fun g e => hk6.block g (own_lt hrow e) (fun h => h))
      obtain ⟨v1, v2⟩ := num_at hrow6 (Pn.lds_len _ _) hget
      have hput := own_put hrow6 q (.int .i64 (c + 1)) (by rw [Pn.ics_len, Pn.lds_len]; exact hqn)
      have hset : (Pn.lds n ((ks.map (ow L)).take i)).set q (c + 1) = Pn.lds n ((ks.map (ow L)).take (i + 1)) := by rw [htk, ← lds_set _ hqn, hc]
      rw [ics_set, hset] at hput
      have HJ := hide (And.intro hput (kk.andNu hk6))
      clear LK hk6 hrow kk htk hc hget hrow6 hput hset
      go_wp2
      exact ⟨⟨i + 1, by go_num, by omega, hide ⟨HJ.out.1, HJ.out.2.andSet _ _ (.inr rfl)⟩⟩, by simp [intOf]; omega⟩
    · have hge : ¬ (i : Int) < (N : Int) := by omega
      obtain rfl : N = i := by omega
      go_wp2
      go_ret
      obtain ⟨hrow, kk⟩ := hI.out
      obtain ⟨_, k05, b5⟩ := H5.out
      refine ⟨_, rfl, ?_, k05.trans kk (fun g hg e => by have e2 : g = w.heap.size := e; omega)⟩
      rw [List.take_of_length_le (by rw [List.length_map, HU.out.2.2.2.2.2.2]; exact Nat.le_refl _)] at hrow
      exact hrow
end Go.Proofs.YtbifmcadllilhaaGreat.Rg
