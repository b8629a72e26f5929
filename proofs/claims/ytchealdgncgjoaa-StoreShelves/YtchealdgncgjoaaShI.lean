import Derived.Test.YtchealdgncgjoaaShF
namespace Go.Proofs.Ytchealdgncgjoaa.StU
open Go.RowKit Go.Proofs.Ytchealdgncgjoaa.St Go.Shelf Go.Sort Go.Proofs.Ytchealdgncgjoaa.It
set_option linter.unusedVariables false
theorem cell_one_new (w : World) (x : Value) (t : TypeId) : ∀ j u, [x][j]? = some u → (w.alloc (.cells #[x] t)).cell? ((⟨w.heap.size, 0, none⟩ : Addr).add j) = some u := fun j u hj => by
  cases j with
  | zero =>
    simp at hj
    subst hj
    exact cell1 (heap_alloc_new w _)
  | succ j => simp at hj
theorem own_nil' {w : World} {B e size : Nat} : w.ownsRow B e size (.slice none 0 0) 0 [] := ⟨by simp, .inl ⟨rfl, rfl⟩⟩
theorem lt_mi {k h : Nat} {x : Int} (hx : x = ((k + 1 : Nat) : Int)) (hm : k < h) : h - (intOf (.int .i64 x)).toNat < h - (intOf (.int .i64 (k : Int))).toNat := by
  subst hx
  show h - (k + 1) < h - k
  omega
set_option maxRecDepth 100000 in
set_option maxHeartbeats 1000000 in
/-- the law's copy of bytes -/
theorem clone48 (w : World) (u : Value) (ys : List Int) (hu : Rd w u ys) (hN : ys.length ≤ 140737488355328) : Calls Try.prog 48 #[u] w fun e w' => ∃ v : Sv, e = .returned (.slice v.a v.n v.c) ∧ w'.ownsRow w.heap.size 5 1 (.slice v.a v.n v.c) ys.length (cs ys) ∧ Kp Nu w w' := by
  obtain ⟨i0, hi, hz0, hz1, hz2⟩ := info_parts info5
  obtain ⟨ad, cap, hue⟩ := hu.slice
  have HU := hide hu
  have HN := hide hN
  subst hue
  generalize hL : ys.length = N at *
  have HL := hide hL
  clear hu hN hL
  go_enter Try.func48, Try.ntmps48
  go_wp2
  go_loopw [3, 4] (fun out i wr => ∃ k : Nat, k ≤ N ∧ i = .int .i64 (k : Int) ∧ (∃ a c, out = .slice a k c) ∧ Hid (wr.ownsRow w.heap.size 5 1 out k (cs (ys.take k)) ∧ Kp Nu w wr)) (fun _ i _ => N - (intOf i).toNat)
  case atStart => exact ⟨0, by omega, rfl, ⟨_, _, rfl⟩, by simpa [cs] using own_nil', Kp.refl _ _⟩
  case round =>
    obtain ⟨k, hkn, rfl, ⟨ao, co, rfl⟩, HI⟩ := hrel
    by_cases hlt : k < N
    · have hky : k < ys.length := by rw [HL.out]; exact hlt
      have hrd := HU.out.nu HI.out.2
      obtain ⟨a, c, e, hc⟩ : ∃ a c, (Value.slice ad N cap) = .slice (some a) ys.length c ∧ ∀ j x, (cs ys)[j]? = some x → wr.cell? (a.add j) = some x := by
        rcases hrd with ⟨e1, e2⟩ | ⟨a, c, e1, hc⟩
        · rw [e2] at hky; simp at hky
        · exact ⟨a, c, e1, hc⟩
      have hx := hc k (.int .u8 ys[k]) (by simp [cs, hky])
      have hltI : (k : Int) < (N : Int) := by omega
      have hk0 : (0 : Int) ≤ (k : Int) := by omega
      have hwk : Hid (wrap64 ((k : Int) + 1) = ((k + 1 : Nat) : Int)) := by
        have := HN.out
        show wrap64 _ = _
        unfold wrap64
        omega
      obtain rfl : ad = some a := by cases e; rfl
      have htk : cs (ys.take k) ++ [.int .u8 ys[k]] = cs (ys.take (k + 1)) := by
        rw [List.take_add_one, List.getElem?_eq_getElem hky]
        unfold cs
        rw [List.map_append]
        rfl
      have HT := hide htk
      generalize ys[k] = z at *
      clear hrd hc e hky htk
      go_wp2_with (at_builtin; refine wpList_append_own _ rfl _ _ 74 rfl w.heap.size 5 i0 _ 1 1 Try.underlying74 hi hz0 hz1 hz2 rfl (by decide) _ k _ rfl (own_keep HI.out.1 (fun g hg => Below.heap_alloc _ _ _ (own_lt HI.out.1 hg))) ⟨wr.heap.size, 0, none⟩ 1 1 [.int .u8 z] rfl ?qc1 ?qc2 ?qc3 ?qc4 ?qc5 ?qc6 ?_)
      case qc1 => rfl
      case qc2 => exact cell_one_new wr _ _
      case qc3 => intro x hx; simp at hx; rw [hx]; rfl
      case qc4 => have := HN.out; unfold maxLen; omega
      case qc5 => have := HN.out; omega
      case qc6 => have := HI.out.2.size; simp; omega
      intro v' w3 hown hgrow hnil
      have hI := HI.out
      obtain ⟨av, cv, ev⟩ := own_slice hown
      have kg := Kp.of_grown hgrow
      have k3 : Kp Nu w w3 := (hI.2.andAlloc _).trans kg (fun i hi e => by
        have := (hI.1.lt i e.symm).1
        omega)
      rw [HT.out] at hown
      have HD := hide (And.intro hown k3)
      clear hown hgrow hnil kg k3 hI HI
      subst ev
      go_wp2
      exact ⟨⟨k + 1, hlt, by rw [hwk.out], ⟨_, _, rfl⟩, HD⟩, lt_mi hwk.out hlt⟩
    · obtain rfl : k = N := by omega
      have hnl : ¬ (k : Int) < (k : Int) := by omega
      clear hlt
      go_wp2
      go_ret
      have := HI.out.1
      rw [List.take_of_length_le (by rw [HL.out]; exact Nat.le_refl _)] at this
      exact ⟨⟨ao, k, co⟩, rfl, this, HI.out.2⟩
end Go.Proofs.Ytchealdgncgjoaa.StU
namespace Go.Proofs.Ytchealdgncgjoaa.StU
open Go.RowKit Go.Proofs.Ytchealdgncgjoaa.St Go.Shelf Go.Sort Go.Proofs.Ytchealdgncgjoaa.It
set_option linter.unusedVariables false
section
variable {w : World} {sb mb : Nat} {most : Int} {t : T (Int × Sv)} {M : List KV}
set_option maxRecDepth 100000 in
set_option maxHeartbeats 1000000 in
/-- Scan: the first pairs of a range -/
theorem scan_any (h : Sh w sb mb most t M) (lo hi lim : Int) (K : Nat) (hK : K = min (rg lo hi M).length lim.toNat) :
    Calls Try.prog 49 #[.pointer (some ⟨sb, 0, none⟩), .int .u64 lo, .int .u64 hi, .int .i64 lim] w fun e w' => ∃ gk L, e = .returned (.tuple #[.slice (some ⟨gk, 0, none⟩) K K, .bool (decide (K < (rg lo hi M).length))]) ∧ Cd w' w.heap.size gk K L ((rg lo hi M).take K) ∧ Kp Nu w w' := by
  have CA := count_any54 h lo hi
  have CP : ∀ W (X : Int), Kp Nu w W → X = (K : Int) → Calls Try.prog 121 #[.pointer (some ⟨sb, 0, none⟩), .int .u64 lo, .int .u64 hi, .int .i64 X] W fun e w' => ∃ gk L, e = .returned (.slice (some ⟨gk, 0, none⟩) K K) ∧ Cd w' w.heap.size gk K L ((rg lo hi M).take K) ∧ Kp Nu w w' := fun W X q eX => by
    rw [eX]
    refine (copies_any (h.nu q) lo hi K (by omega)).mono ?_
    rintro e w' ⟨gk, L, e1, e2, e3⟩
    exact ⟨gk, L, e1, ⟨own_base e2.own q.size, e2.f, fun p hp g hg => Nat.le_trans q.size (e2.lo p hp g hg), e2.ap⟩, q.andNu e3⟩
  generalize (rg lo hi M).take K = A at *
  generalize (rg lo hi M).length = C at *
  have hc : ∃ X : Int, X = (K : Int) ∧ ((lim < 0 ∧ (C : Int) ≤ 0 ∧ X = (C : Int)) ∨ (lim < 0 ∧ ¬ (C : Int) ≤ 0 ∧ X = 0) ∨ (¬ lim < 0 ∧ (C : Int) ≤ lim ∧ X = (C : Int)) ∨ (¬ lim < 0 ∧ ¬ (C : Int) ≤ lim ∧ X = lim)) := by
    refine ⟨(K : Int), rfl, ?_⟩
    omega
  obtain ⟨X, eX, hc⟩ := hc
  have hd : decide (X < (C : Int)) = decide (K < C) := by rw [eX]; simp
  have HM := hide (And.intro eX hd)
  clear h hK hd eX
  rcases hc with ⟨h1, h2, rfl⟩ | ⟨h1, h2, rfl⟩ | ⟨h1, h2, rfl⟩ | ⟨h1, h2, rfl⟩
  all_goals go_enter Try.func49, Try.ntmps49
  all_goals go_wp2_with (first
    | (go_at_call 54; refine CA.mono ?_; rintro e w1 ⟨rfl, k1⟩)
    | (go_at_call 121; refine (CP _ _ k1 HM.out.1).mono ?_; rintro e w2 ⟨gk, L, rfl, z2, k2⟩))
  all_goals go_ret2
  all_goals refine ⟨gk, L, ?_, z2, k2⟩
  all_goals have e1 := HM.out.1
  all_goals first
    | (have h9 : K < C := by omega
       rw [decide_eq_true h9]; rfl)
    | (have h9 : ¬ K < C := by omega
       rw [decide_eq_false h9]; rfl)
    | (have h9 : K = 0 := by omega
       rw [h9]; rfl)
end
end Go.Proofs.Ytchealdgncgjoaa.StU
namespace Go.Proofs.Ytchealdgncgjoaa.StU
open Go.RowKit Go.Proofs.Ytchealdgncgjoaa.St Go.Shelf
set_option linter.unusedVariables false
/-- a pair that came in -/
structure Pg where
  k : Int
  v : Sv
  ys : List Int
deriving Inhabited
/-- pairs that came in -/
def Wp (W : World) (v : Value) (S : List Pg) : Prop := ∃ ad cap, v = .slice ad S.length cap ∧ ∀ (i : Nat) (s : Pg), S[i]? = some s → ∃ b off, ad = some ⟨b, off, none⟩ ∧ W.cell? ⟨b, off + i * 2, none⟩ = some (.int .u64 s.k) ∧ W.cell? ⟨b, off + i * 2 + 1, none⟩ = some (.slice s.v.a s.v.n s.v.c) ∧ Rd W (.slice s.v.a s.v.n s.v.c) s.ys ∧ Byt s.ys ∧ 0 ≤ s.k ∧ s.k ≤ 18446744073709551615 ∧ s.ys.length ≤ 140737488355328
theorem cell_nu {w w' : World} {a : Addr} {u : Value} (h : w.cell? a = some u) (k : Kp Nu w w') : w'.cell? a = some u :=
  (World.cell?_of_block (k.block _ (World.block_lt_of_cell? w _ h) (fun h => h))).trans h
theorem pc_at : ∀ (L : List (Int × Sv)) (j : Nat) (p : Int × Sv), L[j]? = some p → (pc L)[j * 2]? = some (.int .u64 p.1) ∧ (pc L)[j * 2 + 1]? = some (sl p.2)
  | [], j, p, h => by simp at h
  | a :: L, 0, p, h => by simp at h; subst h; exact ⟨rfl, rfl⟩
  | a :: L, j + 1, p, h => by
    have := pc_at L j p (by simpa using h)
    rw [show (j + 1) * 2 = j * 2 + 1 + 1 by omega]
    exact this
/-- a pair of a row that was told -/
theorem Cd.at_ {V : World} {B gk N j : Nat} {L : List (Int × Sv)} {A : List KV} (h : Cd V B gk N L A) {m : KV} (hj : A[j]? = some m) : ∃ p, L[j]? = some p ∧ FV V p m ∧ V.cell? ⟨gk, j * 2, none⟩ = some (.int .u64 m.1) ∧ V.cell? ⟨gk, j * 2 + 1, none⟩ = some (.slice p.2.a p.2.n p.2.c) := by
  have hl := h.f.length
  obtain ⟨p, hp⟩ : ∃ p, L[j]? = some p := ⟨_, List.getElem?_eq_getElem (by rw [hl]; exact (List.getElem?_eq_some_iff.1 hj).1)⟩
  obtain ⟨m', hm', hf⟩ := h.f.at hp
  rw [hj] at hm'; cases hm'
  obtain ⟨c0, c1⟩ := pc_at L j p hp
  have hb : j * 2 + 1 < N * 2 := by have := (List.getElem?_eq_some_iff.1 c1).1; rw [h.own.1] at this; exact this
  rcases h.own.2 with ⟨e, _⟩ | ⟨g, cap, cur, e, _, hg, _, _, _, h4⟩
  · cases e
  cases e
  rw [← h4, List.getElem?_take_of_lt (by omega)] at c0 c1
  refine ⟨p, hp, hf, ?_, ?_⟩
  · rw [← hf.1]; simpa [World.cell?, hg] using c0
  · simpa [World.cell?, hg] using c1
theorem Cd.nu {V W : World} {B gk N : Nat} {L : List (Int × Sv)} {A : List KV} (h : Cd V B gk N L A) (k : Kp Nu V W) : Cd W B gk N L A :=
  ⟨own_keep h.own (fun g e => k.block g (own_lt h.own e) (fun h => h)), h.f.imp (fun p m hf => hf.keep k (fun _ _ hs => hs.elim)), h.lo, h.ap⟩
/-- keys rise -/
def Ris (M : List KV) : Prop := M.Pairwise (fun a b => a.1 < b.1)
section
variable {w : World} {sb mb : Nat} {most : Int} {t : T (Int × Sv)} {M : List KV}
theorem ris_of {xs : List (Int × Sv)} {M : List KV} (hv : F2 (FV w) xs M) (h : Srt cmpI xs) : Ris M := by
  induction xs generalizing M with
  | nil => cases M with
    | nil => exact List.Pairwise.nil
    | cons b M => exact hv.elim
  | cons a xs ih => cases M with
    | nil => exact hv.elim
    | cons b M =>
      obtain ⟨h1, h2⟩ := List.pairwise_cons.1 h
      refine List.pairwise_cons.2 ⟨fun m hm => ?_, ih hv.2 h2⟩
      obtain ⟨p, hp, hf⟩ := hv.2.mem m hm
      have q := h1 p hp
      have q : a.1 < p.1 := by simp only [cmpI] at q; repeat' split at q; all_goals omega
      rw [← hv.1.1, ← hf.1]; exact q
theorem Sh.ris (h : Sh w sb mb most t M) : Ris M := ris_of h.vs h.m.srt
theorem Ris.pl {M : List KV} (h : Ris M) : ∀ {i : Nat} {m : KV}, M[i]? = some m → StU.pl m.1 M = i := by
  induction M with
  | nil => intro i m hm; simp at hm
  | cons a M ih =>
    intro i m hm
    obtain ⟨h1, h2⟩ := List.pairwise_cons.1 h
    cases i with
    | zero =>
      simp at hm; subst hm
      show List.countP _ (a :: M) = 0
      rw [List.countP_eq_zero]
      intro b hb
      rcases List.mem_cons.1 hb with rfl | hb
      · simp
      · have := h1 b hb; simp; omega
    | succ i =>
      have hm : M[i]? = some m := by simpa using hm
      have := ih h2 hm
      have hlt := h1 m (List.mem_of_getElem? hm)
      show List.countP _ (a :: M) = i + 1
      unfold StU.pl at this
      rw [List.countP_cons, this]; simp [hlt]
/-- what is there is told -/
theorem Ris.get {M : List KV} (h : Ris M) {m : KV} (hm : m ∈ M) : hs m.1 M = true ∧ gtM m.1 M = m.2 := by
  have h1 : hs m.1 M = true := List.any_eq_true.2 ⟨m, hm, by simp⟩
  obtain ⟨i, hi⟩ := List.mem_iff_getElem?.1 hm
  have e := h.pl hi
  refine ⟨h1, ?_⟩
  unfold gtM
  rw [if_pos h1, e, hi]; rfl
theorem rg_mem {lo hi : Int} {m : KV} (h : m ∈ rg lo hi M) : m ∈ M ∧ lo ≤ m.1 ∧ m.1 ≤ hi := by
  have := List.mem_filter.1 h
  unfold inR at this
  simpa using this
theorem Ris.rg {M : List KV} (h : Ris M) (lo hi : Int) : Ris (rg lo hi M) := List.Pairwise.sublist List.filter_sublist h
/-- the rest of a range is the range behind the last one told -/
theorem rg_rest {M : List KV} (h : Ris M) (lo hi : Int) {q : Nat} {m : KV} (hm : (rg lo hi M)[q]? = some m) : rg (m.1 + 1) hi M = (rg lo hi M).drop (q + 1) := by
  have hl : lo ≤ m.1 := (rg_mem (List.mem_of_getElem? hm)).2.1
  have hr := h.rg lo hi
  have e1 : rg (m.1 + 1) hi M = rg (m.1 + 1) hi (rg lo hi M) := by
    unfold rg
    rw [List.filter_filter]
    refine List.filter_congr (fun p _ => ?_)
    unfold inR
    rw [Bool.eq_iff_iff]
    simp only [Bool.and_eq_true, decide_eq_true_eq]
    omega
  rw [e1]
  have hall : ∀ p ∈ rg lo hi M, p.1 ≤ hi := fun p hp => (rg_mem hp).2.2
  generalize rg lo hi M = R at *
  clear e1
  induction R generalizing q with
  | nil => simp at hm
  | cons a R ih =>
    obtain ⟨h1, h2⟩ := List.pairwise_cons.1 hr
    cases q with
    | zero =>
      simp at hm; subst hm
      show List.filter _ (a :: R) = R
      rw [List.filter_cons, if_neg (by unfold inR; simp; omega)]
      refine List.filter_eq_self.2 (fun p hp => ?_)
      have := h1 p hp
      have := hall p (by simp [hp])
      unfold inR; simp; omega
    | succ q =>
      have hm : R[q]? = some m := by simpa using hm
      have hlt := h1 m (List.mem_of_getElem? hm)
      show List.filter _ (a :: R) = R.drop (q + 1)
      rw [List.filter_cons, if_neg (by unfold inR; simp; omega)]
      exact ih hm h2 (fun p hp => hall p (by simp [hp]))
theorem cnt_keys {lo hi : Int} {A B : List KV} (h : A.map Prod.fst = B.map Prod.fst) : (rg lo hi A).length = (rg lo hi B).length := by
  have e : ∀ L : List KV, (rg lo hi L).length = (L.map Prod.fst).countP (fun k => decide (lo ≤ k) && decide (k ≤ hi)) := fun L => by
    rw [← List.countP_eq_length_filter, List.countP_map]; rfl
  rw [e, e, h]
/-- how many lie in a range behind a Put -/
theorem rg_put (k : Int) (ys : List Int) (lo hi : Int) (M : List KV) : (rg lo hi (putM k ys M)).length = (rg lo hi M).length + (if hs k M = false ∧ lo ≤ k ∧ k ≤ hi then 1 else 0) := by
  unfold putM
  cases hk : hs k M with
  | true =>
    rw [if_pos rfl, if_neg (by simp)]
    exact cnt_keys (map_modify Prod.fst (fun m => (m.1, ys)) (fun _ => rfl) M _)
  | false =>
    rw [if_neg (by simp)]
    have : (rg lo hi M).length = (rg lo hi (M.take (StU.pl k M))).length + (rg lo hi (M.drop (StU.pl k M))).length := by
      rw [← List.length_append, ← List.filter_append, List.take_append_drop]
    rw [this]
    show (List.filter _ (_ ++ _)).length = _
    rw [List.filter_append, List.filter_cons, List.length_append]
    by_cases hi2 : lo ≤ k ∧ k ≤ hi
    · rw [if_pos (by unfold inR; simpa using hi2), if_pos ⟨rfl, hi2⟩]
      simp [rg]; omega
    · rw [if_neg (by unfold inR; simpa using hi2), if_neg (fun h => hi2 h.2)]
      rfl
end
end Go.Proofs.Ytchealdgncgjoaa.StU
