import Derived.Test.YtffcnonhhfhlhaaTgC
import Derived.Deep.QuietTactic
import Derived.BigQuiet
namespace Go.Proofs.Ytffcnonhhfhlhaa.Rg
open Go.RowKit Go.Shelf Go.Sort Go.Maps
open Go.Proofs.Ytffcnonhhfhlhaa.It
set_option linter.unusedVariables false

def sumI (f : Int → Int) : List Int → Int
  | [] => 0
  | h :: r => f h + sumI f r
theorem sumI_snoc (f : Int → Int) (x : Int) : ∀ l, sumI f (l ++ [x]) = sumI f l + f x
  | [] => by simp [sumI]
  | a :: l => by simp only [List.cons_append, sumI, sumI_snoc f x l]; omega
theorem sumI_zero : ∀ l, sumI (fun _ => 0) l = 0
  | [] => rfl
  | a :: l => by simp only [sumI, sumI_zero l]; omega
theorem sumI_add (f g : Int → Int) : ∀ l, sumI (fun p => f p + g p) l = sumI f l + sumI g l
  | [] => by simp [sumI]
  | a :: l => by simp only [sumI, sumI_add f g l]; omega
theorem sumI_ind (x c : Int) : ∀ {l : List Int}, l.Nodup → sumI (fun p => if x = p then c else 0) l = if x ∈ l then c else 0
  | [], _ => by simp [sumI]
  | a :: l, h => by
    have ih := sumI_ind x c (List.nodup_cons.1 h).2
    have ha := (List.nodup_cons.1 h).1
    simp only [sumI, ih, List.mem_cons]
    by_cases e : x = a
    · subst e
      rw [if_pos rfl, if_neg ha, if_pos (.inl rfl)]; omega
    · simp [e]
theorem sum_cnt {hs : List Int} (hn : hs.Nodup) : ∀ {A : List Sg}, (∀ s ∈ A, s.h ∈ hs) → sumI (cntL A) hs = A.length
  | [], h => by have := sumI_zero hs; simpa [cntL] using this
  | s :: r, h => by
    have ih := sum_cnt hn (A := r) (fun t ht => h t (List.mem_cons_of_mem _ ht))
    have e : cntL (s :: r) = fun p => (if s.h = p then 1 else 0) + cntL r p := by funext p; rfl
    rw [e, sumI_add (fun p => if s.h = p then 1 else 0) (cntL r), sumI_ind _ _ hn, ih, if_pos (h s (by simp)), List.length_cons]
    omega
theorem sum_key {hs : List Int} (hn : hs.Nodup) : ∀ {A : List Sg} {a b : Int}, Cov a A b → (∀ s ∈ A, s.h ∈ hs) → sumI (keyL A) hs = b - a
  | [], a, b, hc, h => by have := sumI_zero hs; have e : a = b := hc; simp [keyL, this]; omega
  | s :: r, a, b, hc, h => by
    have ih := sum_key hn hc.2.2 (fun t ht => h t (List.mem_cons_of_mem _ ht))
    have e : keyL (s :: r) = fun p => (if s.h = p then s.hi - s.lo + 1 else 0) + keyL r p := by funext p; rfl
    rw [e, sumI_add (fun p => if s.h = p then s.hi - s.lo + 1 else 0) (keyL r), sumI_ind _ _ hn, ih, if_pos (h s (by simp))]
    have := hc.1
    omega
theorem sumI_nonneg {f : Int → Int} : ∀ {l : List Int}, (∀ p ∈ l, 0 ≤ f p) → 0 ≤ sumI f l
  | [], h => by simp [sumI]
  | a :: l, h => by
    have := sumI_nonneg (f := f) (l := l) (fun p hp => h p (List.mem_cons_of_mem _ hp))
    have := h a (by simp)
    simp only [sumI]; omega
/-- the hosts of a table, in order -/
structure Hs (A : List Sg) (hs : List Int) : Prop where
  nd : hs.Nodup
  mem : ∀ p, p ∈ hs ↔ (0 ≤ p ∧ p < 256 ∧ 0 < cntL A p)
  rise : ∀ j p q, hs[j]? = some p → hs[j + 1]? = some q → p < q
theorem pair_get {R : Int → Int → Prop} : ∀ {l : List Int}, l.Pairwise R → ∀ {j : Nat} {p q : Int}, l[j]? = some p → l[j + 1]? = some q → R p q
  | [], _, j, p, q, h1, h2 => by simp at h1
  | [a], _, j, p, q, h1, h2 => by simp at h2
  | a :: b :: l, h, 0, p, q, h1, h2 => by
    simp at h1 h2; subst h1 h2
    exact (List.pairwise_cons.1 h).1 _ (by simp)
  | a :: b :: l, h, j + 1, p, q, h1, h2 => pair_get (l := b :: l) (List.pairwise_cons.1 h).2 (by simpa using h1) (by simpa using h2)
theorem Khd.hs {A : List Sg} {ss : List Int} (h : Khd A ss) : Hs A (srt ss) := by
  have hp : (srt ss).Perm ss := List.mergeSort_perm _ _
  have hnd : (srt ss).Nodup := hp.nodup_iff.2 h.1
  have hs : (srt ss).Pairwise (fun a b => (!(ltOf cmpI) b a) = true) := by
    first
    | exact List.sorted_mergeSort (fun a b c h1 h2 => by simp [ltH] at *; omega) (fun a b => by simp [ltH]; omega) ss
    | exact List.pairwise_mergeSort (fun a b c h1 h2 => by simp [ltH] at *; omega) (fun a b => by simp [ltH]; omega) ss
  refine ⟨hnd, fun p => by rw [hp.mem_iff]; exact h.2 p, fun j p q h1 h2 => ?_⟩
  have a1 := pair_get hs h1 h2
  have a2 := pair_get hnd h1 h2
  simp [ltH] at a1
  have : p ≠ q := a2
  omega
theorem Hs.has {A : List Sg} {hs : List Int} (h : Hs A hs) (hA : Tab A) : ∀ s ∈ A, s.h ∈ hs := fun s hs' => (h.mem _).2 ⟨(hA.hs s hs').1, by have := (hA.hs s hs').2; omega, cntL_pos hs'⟩
theorem owns_all {A : List Sg} (hA : Tab A) (p : Int) : ownsB A 0 18446744073709551615 p = A.all (fun s => s.h == p) := by
  unfold ownsB
  rw [plc_first hA.cov, List.drop_zero]
  have := tk_id (z := 0) hA.cov (Int.le_refl _)
  rw [show (18446744073709551616 : Int) - 1 = 18446744073709551615 by omega] at this
  rw [this]
theorem cnt_mem : ∀ {L : List Sg} {p : Int}, 0 < cntL L p → ∃ s ∈ L, s.h = p
  | [], p, h => by simp [cntL] at h
  | t :: r, p, h => by
    simp only [cntL] at h
    by_cases e : t.h = p
    · exact ⟨t, by simp, e⟩
    · rw [if_neg e] at h
      obtain ⟨s, h1, h2⟩ := cnt_mem (L := r) (p := p) (by omega)
      exact ⟨s, List.mem_cons_of_mem _ h1, h2⟩
theorem Hs.one {A : List Sg} {hs : List Int} (h : Hs A hs) (hA : Tab A) {p : Int} (hp : p ∈ hs) : ownsB A 0 18446744073709551615 p = decide (hs.length = 1) := by
  rw [owns_all hA]
  by_cases e : hs.length = 1
  · rw [decide_eq_true e, List.all_eq_true]
    intro s hs'
    have h1 := h.has hA s hs'
    match hs, e, hp, h1 with
    | [x], _, hp, h1 => simp at hp h1; simp [hp, h1]
  · rw [decide_eq_false e]
    cases hall : A.all (fun s => s.h == p) with
    | false => rfl
    | true =>
      exfalso
      rw [List.all_eq_true] at hall
      have honly : ∀ q ∈ hs, q = p := fun q hq => by
        obtain ⟨s, h1, h2⟩ := cnt_mem ((h.mem q).1 hq).2.2
        have := hall s h1
        simp at this
        omega
      match hs, e, h.nd, honly, hp with
      | [], _, _, _, hp => simp at hp
      | [x], e, _, _, _ => simp at e
      | x :: y :: r, _, nd, ho, _ =>
        have h1 := ho x (by simp)
        have h2 := ho y (by simp)
        rw [h1, h2] at nd
        simp at nd
theorem Hs.first {A : List Sg} {hs : List Int} (h : Hs A hs) (hA : Tab A) {p : Int} (hp : hs[0]? = some p) : (keyL A p - 1 = 18446744073709551615) ↔ hs.length = 1 := by
  have hsum := sum_key h.nd hA.cov (h.has hA)
  cases hs with
  | nil => simp at hp
  | cons x r =>
    simp at hp
    subst hp
    simp only [sumI] at hsum
    have hnn : ∀ q ∈ r, 1 ≤ keyL A q := fun q hq => by
      have h1 := (keyL_range q hA.cov).1
      have h2 := ((h.mem q).1 (List.mem_cons_of_mem _ hq)).2.2
      omega
    cases r with
    | nil => simp [sumI] at hsum; simp; omega
    | cons y r =>
      have h1 := hnn y (by simp)
      have h2 := sumI_nonneg (f := keyL A) (l := r) (fun q hq => by have := hnn q (List.mem_cons_of_mem _ hq); omega)
      simp only [sumI] at hsum
      simp
      omega
theorem rowH_at {w : World} {B : Nat} {v : Value} {A : List Sg} {hs : List Int} (h : w.ownsRow B 80 3 v hs.length (cellsH A hs)) {i : Nat} {p : Int} (hi : hs[i]? = some p) : ∃ r cap, v = .slice (some ⟨r, 0, none⟩) hs.length cap ∧ w.cell? ⟨r, i * 3, none⟩ = some (.int .u8 p) ∧ w.cell? ⟨r, i * 3 + 1, none⟩ = some (.int .i64 (cntL A p)) ∧ w.cell? ⟨r, i * 3 + 2, none⟩ = some (.int .u64 (keyL A p - 1)) := by
  have hlt : i < hs.length := (List.getElem?_eq_some_iff.1 hi).1
  rcases h.2 with ⟨_, h0⟩ | ⟨r, cap, cur, e, hB, hg, h1, h2, h3, h4⟩
  · omega
  · have key : ∀ j, j < 3 → cur[i * 3 + j]? = (encH A p)[j]? := by
      intro j hj
      have e1 := cellsH_get A hs (i * 3 + j)
      rw [show (i * 3 + j) / 3 = i by omega, show (i * 3 + j) % 3 = j by omega, hi] at e1
      rw [← h4, List.getElem?_take_of_lt (by omega)] at e1
      simpa using e1
    refine ⟨r, cap, e, ?_, ?_, ?_⟩
    · have := key 0 (by omega)
      simpa [World.cell?, hg, encH] using this
    · have := key 1 (by omega)
      simpa [World.cell?, hg, encH] using this
    · have := key 2 (by omega)
      simpa [World.cell?, hg, encH] using this
end Go.Proofs.Ytffcnonhhfhlhaa.Rg
