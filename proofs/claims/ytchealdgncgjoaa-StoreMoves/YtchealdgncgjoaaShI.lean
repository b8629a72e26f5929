import Derived.Test.YtchealdgncgjoaaShH
namespace Go.Proofs.Ytchealdgncgjoaa.StU
open Go.RowKit Go.Proofs.Ytchealdgncgjoaa.St Go.Shelf
set_option linter.unusedVariables false
/-- a pair that came in -/
structure Pg where
  k : Int
  v : Sv
  ys : List Int
deriving Inhabited
/-- pairs that came in -/
def Wp (W : World) (v : Value) (S : List Pg) : Prop := ∃ ad cap, v = .slice ad S.length cap ∧ ∀ (i : Nat) (s : Pg), S[i]? = some s → ∃ b off, ad = some ⟨b, off, none⟩ ∧ W.cell? ⟨b, off + i * 2, none⟩ = some (.int .u64 s.k) ∧ W.cell? ⟨b, off + i * 2 + 1, none⟩ = some (.slice s.v.a s.v.n s.v.c) ∧ Rd W (.slice s.v.a s.v.n s.v.c) s.ys ∧ Byt s.ys ∧ 0 ≤ s.k ∧ s.k ≤ 18446744073709551615 ∧ s.ys.length ≤ 140737488355328
theorem cell_nu {w w' : World} {a : Addr} {u : Value} (h : w.cell? a = some u) (k : Kp Nu w w') : w'.cell? a = some u :=
  (World.cell?_of_block (k.block _ (World.block_lt_of_cell? w _ h) (fun h => h))).trans h
theorem pc_at : ∀ (L : List (Int × Sv)) (j : Nat) (p : Int × Sv), L[j]? = some p → (pc L)[j * 2]? = some (.int .u64 p.1) ∧ (pc L)[j * 2 + 1]? = some (sl p.2)
  | [], j, p, h => by simp at h
  | a :: L, 0, p, h => by simp at h; subst h; exact ⟨rfl, rfl⟩
  | a :: L, j + 1, p, h => by
    have := pc_at L j p (by simpa using h)
    rw [show (j + 1) * 2 = j * 2 + 1 + 1 by omega]
    exact this
/-- a pair of a row that was told -/
theorem Cd.at_ {V : World} {B gk N j : Nat} {L : List (Int × Sv)} {A : List KV} (h : Cd V B gk N L A) {m : KV} (hj : A[j]? = some m) : ∃ p, L[j]? = some p ∧ FV V p m ∧ V.cell? ⟨gk, j * 2, none⟩ = some (.int .u64 m.1) ∧ V.cell? ⟨gk, j * 2 + 1, none⟩ = some (.slice p.2.a p.2.n p.2.c) := by
  have hl := h.f.length
  obtain ⟨p, hp⟩ : ∃ p, L[j]? = some p := ⟨_, List.getElem?_eq_getElem (by rw [hl]; exact (List.getElem?_eq_some_iff.1 hj).1)⟩
  obtain ⟨m', hm', hf⟩ := h.f.at hp
  rw [hj] at hm'; cases hm'
  obtain ⟨c0, c1⟩ := pc_at L j p hp
  have hb : j * 2 + 1 < N * 2 := by have := (List.getElem?_eq_some_iff.1 c1).1; rw [h.own.1] at this; exact this
  rcases h.own.2 with ⟨e, _⟩ | ⟨g, cap, cur, e, _, hg, _, _, _, h4⟩
  · cases e
  cases e
  rw [← h4, List.getElem?_take_of_lt (by omega)] at c0 c1
  refine ⟨p, hp, hf, ?_, ?_⟩
  · rw [← hf.1]; simpa [World.cell?, hg] using c0
  · simpa [World.cell?, hg] using c1
theorem Cd.nu {V W : World} {B gk N : Nat} {L : List (Int × Sv)} {A : List KV} (h : Cd V B gk N L A) (k : Kp Nu V W) : Cd W B gk N L A :=
  ⟨own_keep h.own (fun g e => k.block g (own_lt h.own e) (fun h => h)), h.f.imp (fun p m hf => hf.keep k (fun _ _ hs => hs.elim)), h.lo, h.ap⟩
/-- keys rise -/
def Ris (M : List KV) : Prop := M.Pairwise (fun a b => a.1 < b.1)
section
variable {w : World} {sb mb : Nat} {most : Int} {t : T (Int × Sv)} {M : List KV}
theorem ris_of {xs : List (Int × Sv)} {M : List KV} (hv : F2 (FV w) xs M) (h : Srt cmpI xs) : Ris M := by
  induction xs generalizing M with
  | nil => cases M with
    | nil => exact List.Pairwise.nil
    | cons b M => exact hv.elim
  | cons a xs ih => cases M with
    | nil => exact hv.elim
    | cons b M =>
      obtain ⟨h1, h2⟩ := List.pairwise_cons.1 h
      refine List.pairwise_cons.2 ⟨fun m hm => ?_, ih hv.2 h2⟩
      obtain ⟨p, hp, hf⟩ := hv.2.mem m hm
      have q := h1 p hp
      have q : a.1 < p.1 := by simp only [cmpI] at q; repeat' split at q; all_goals omega
      rw [← hv.1.1, ← hf.1]; exact q
theorem Sh.ris (h : Sh w sb mb most t M) : Ris M := ris_of h.vs h.m.srt
theorem Ris.pl {M : List KV} (h : Ris M) : ∀ {i : Nat} {m : KV}, M[i]? = some m → StU.pl m.1 M = i := by
  induction M with
  | nil => intro i m hm; simp at hm
  | cons a M ih =>
    intro i m hm
    obtain ⟨h1, h2⟩ := List.pairwise_cons.1 h
    cases i with
    | zero =>
      simp at hm; subst hm
      show List.countP _ (a :: M) = 0
      rw [List.countP_eq_zero]
      intro b hb
      rcases List.mem_cons.1 hb with rfl | hb
      · simp
      · have := h1 b hb; simp; omega
    | succ i =>
      have hm : M[i]? = some m := by simpa using hm
      have := ih h2 hm
      have hlt := h1 m (List.mem_of_getElem? hm)
      show List.countP _ (a :: M) = i + 1
      unfold StU.pl at this
      rw [List.countP_cons, this]; simp [hlt]
/-- what is there is told -/
theorem Ris.get {M : List KV} (h : Ris M) {m : KV} (hm : m ∈ M) : hs m.1 M = true ∧ gtM m.1 M = m.2 := by
  have h1 : hs m.1 M = true := List.any_eq_true.2 ⟨m, hm, by simp⟩
  obtain ⟨i, hi⟩ := List.mem_iff_getElem?.1 hm
  have e := h.pl hi
  refine ⟨h1, ?_⟩
  unfold gtM
  rw [if_pos h1, e, hi]; rfl
theorem rg_mem {lo hi : Int} {m : KV} (h : m ∈ rg lo hi M) : m ∈ M ∧ lo ≤ m.1 ∧ m.1 ≤ hi := by
  have := List.mem_filter.1 h
  unfold inR at this
  simpa using this
theorem Ris.rg {M : List KV} (h : Ris M) (lo hi : Int) : Ris (rg lo hi M) := List.Pairwise.sublist List.filter_sublist h
/-- the rest of a range is the range behind the last one told -/
theorem rg_rest {M : List KV} (h : Ris M) (lo hi : Int) {q : Nat} {m : KV} (hm : (rg lo hi M)[q]? = some m) : rg (m.1 + 1) hi M = (rg lo hi M).drop (q + 1) := by
  have hl : lo ≤ m.1 := (rg_mem (List.mem_of_getElem? hm)).2.1
  have hr := h.rg lo hi
  have e1 : rg (m.1 + 1) hi M = rg (m.1 + 1) hi (rg lo hi M) := by
    unfold rg
    rw [List.filter_filter]
    refine List.filter_congr (fun p _ => ?_)
    unfold inR
    rw [Bool.eq_iff_iff]
    simp only [Bool.and_eq_true, decide_eq_true_eq]
    omega
  rw [e1]
  have hall : ∀ p ∈ rg lo hi M, p.1 ≤ hi := fun p hp => (rg_mem hp).2.2
  generalize rg lo hi M = R at *
  clear e1
  induction R generalizing q with
  | nil => simp at hm
  | cons a R ih =>
    obtain ⟨h1, h2⟩ := List.pairwise_cons.1 hr
    cases q with
    | zero =>
      simp at hm; subst hm
      show List.filter _ (a :: R) = R
      rw [List.filter_cons, if_neg (by unfold inR; simp; omega)]
      refine List.filter_eq_self.2 (fun p hp => ?_)
      have := h1 p hp
      have := hall p (by simp [hp])
      unfold inR; simp; omega
    | succ q =>
      have hm : R[q]? = some m := by simpa using hm
      have hlt := h1 m (List.mem_of_getElem? hm)
      show List.filter _ (a :: R) = R.drop (q + 1)
      rw [List.filter_cons, if_neg (by unfold inR; simp; omega)]
      exact ih hm h2 (fun p hp => hall p (by simp [hp]))
theorem cnt_keys {lo hi : Int} {A B : List KV} (h : A.map Prod.fst = B.map Prod.fst) : (rg lo hi A).length = (rg lo hi B).length := by
  have e : ∀ L : List KV, (rg lo hi L).length = (L.map Prod.fst).countP (fun k => decide (lo ≤ k) && decide (k ≤ hi)) := fun L => by
    rw [← List.countP_eq_length_filter, List.countP_map]; rfl
  rw [e, e, h]
/-- how many lie in a range behind a Put -/
theorem rg_put (k : Int) (ys : List Int) (lo hi : Int) (M : List KV) : (rg lo hi (putM k ys M)).length = (rg lo hi M).length + (if hs k M = false ∧ lo ≤ k ∧ k ≤ hi then 1 else 0) := by
  unfold putM
  cases hk : hs k M with
  | true =>
    rw [if_pos rfl, if_neg (by simp)]
    exact cnt_keys (map_modify Prod.fst (fun m => (m.1, ys)) (fun _ => rfl) M _)
  | false =>
    rw [if_neg (by simp)]
    have : (rg lo hi M).length = (rg lo hi (M.take (StU.pl k M))).length + (rg lo hi (M.drop (StU.pl k M))).length := by
      rw [← List.length_append, ← List.filter_append, List.take_append_drop]
    rw [this]
    show (List.filter _ (_ ++ _)).length = _
    rw [List.filter_append, List.filter_cons, List.length_append]
    by_cases hi2 : lo ≤ k ∧ k ≤ hi
    · rw [if_pos (by unfold inR; simpa using hi2), if_pos ⟨rfl, hi2⟩]
      simp [rg]; omega
    · rw [if_neg (by unfold inR; simpa using hi2), if_neg (fun h => hi2 h.2)]
      rfl
end
end Go.Proofs.Ytchealdgncgjoaa.StU
