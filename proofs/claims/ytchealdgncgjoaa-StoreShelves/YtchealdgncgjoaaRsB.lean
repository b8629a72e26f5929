import Derived.Test.YtchealdgncgjoaaMvD
import Derived.BigQuiet
import Derived.Deep.QuietTactic
import Derived.Deep.RegionHeld3
namespace Go.Proofs.Ytchealdgncgjoaa.StU
open Go.RowKit Go.Proofs.Ytchealdgncgjoaa.St Go.Shelf
set_option linter.unusedVariables false
/-- the value of the key at a place -/
def vl (i : Nat) (k : Int) : List Int := [((i % 256 : Nat) : Int), ((i / 256 % 256 : Nat) : Int), k % 256]
theorem vl_byt (i : Nat) (k : Int) : Byt (vl i k) := by
  intro z hz
  simp only [vl, List.mem_cons, List.not_mem_nil, or_false] at hz
  rcases hz with rfl | rfl | rfl <;> omega
theorem vl_len (i : Nat) (k : Int) : (vl i k).length = 3 := rfl
set_option maxHeartbeats 400000 in
theorem value62 (w : World) (b off n cap i : Nat) (k : Int) (hc : w.cell? ⟨b, off + i, none⟩ = some (.int .u64 k)) (hi : i < n) (hn : n ≤ 30000) (hk0 : 0 ≤ k) (hk1 : k ≤ 18446744073709551615) :
    Calls Try.prog 62 #[.slice (some ⟨b, off, none⟩) n cap, .int .i64 (i : Int)] w fun e w' => ∃ g, e = .returned (.slice (some ⟨g, 0, none⟩) 3 3) ∧ w'.ownsRow w.heap.size 5 1 (.slice (some ⟨g, 0, none⟩) 3 3) 3 (cs (vl i k)) ∧ Kp Nu w w' := by
  have hiI : (i : Int) < (n : Int) := by omega
  have hi0 : (0 : Int) ≤ (i : Int) := by omega
  have hq : Int.tdiv (i : Int) 256 = ((i / 256 : Nat) : Int) := by rw [Int.tdiv_eq_ediv_of_nonneg hi0]; omega
  have hqw : wrap64 ((i / 256 : Nat) : Int) = ((i / 256 : Nat) : Int) := by unfold wrap64; omega
  go_enter Try.func62, Try.ntmps62
  go_wp2
  go_ret
  refine ⟨_, rfl, ⟨rfl, .inr ⟨_, 3, _, rfl, ?_, heap_alloc_new _ _, ?_, ?_, ?_, ?_⟩⟩, ?_⟩
  case refine_1 => exact Nat.le_refl _
  case refine_2 => exact Nat.le_refl _
  case refine_3 => decide
  case refine_4 => rfl
  case refine_5 =>
    show [Value.int .u8 ((i : Int) % 256), Value.int .u8 ((i : Int) / 256), Value.int .u8 (k % 256)] = [Value.int .u8 ((i % 256 : Nat) : Int), Value.int .u8 ((i / 256 % 256 : Nat) : Int), Value.int .u8 (k % 256)]
    rw [show ((i % 256 : Nat) : Int) = (i : Int) % 256 by omega, show ((i / 256 % 256 : Nat) : Int) = (i : Int) / 256 by omega]
  case refine_6 => exact Kp.alloc _ _ _
/-- the pairs of a row that came out of a shelf -/
def kv (s : Pg) : KV := (s.k, s.ys)
def pgs : List (Int × Sv) → List KV → List Pg
  | p :: L, m :: A => ⟨m.1, p.2, m.2⟩ :: pgs L A
  | _, _ => []
theorem pgs_map {R : Int × Sv → KV → Prop} : ∀ {L : List (Int × Sv)} {A : List KV}, F2 R L A → (pgs L A).map kv = A
  | [], [], _ => rfl
  | p :: L, m :: A, h => by
    show kv ⟨m.1, p.2, m.2⟩ :: (pgs L A).map kv = _
    rw [pgs_map h.2]; rfl
  | [], b :: ys, h => h.elim
  | a :: xs, [], h => h.elim
theorem pgs_at : ∀ (L : List (Int × Sv)) (A : List KV) (i : Nat) (s : Pg), (pgs L A)[i]? = some s → ∃ p m, L[i]? = some p ∧ A[i]? = some m ∧ s = ⟨m.1, p.2, m.2⟩
  | p :: L, m :: A, i, s, h => by
    cases i with
    | zero => simp [pgs] at h; exact ⟨p, m, rfl, rfl, h.symm⟩
    | succ i => exact pgs_at L A i s (by simpa [pgs] using h)
  | [], A, i, s, h => by simp [pgs] at h
  | a :: xs, [], i, s, h => by simp [pgs] at h
theorem Cd.wp {V : World} {B gk N : Nat} {L : List (Int × Sv)} {A : List KV} (h : Cd V B gk N L A) (hN : A.length = N) : Wp V (.slice (some ⟨gk, 0, none⟩) N N) (pgs L A) := by
  have hl : (pgs L A).length = N := by
    rw [← hN, ← congrArg List.length (pgs_map h.f), List.length_map]
  refine ⟨some ⟨gk, 0, none⟩, N, by rw [hl], fun i s hs => ⟨gk, 0, rfl, ?_⟩⟩
  obtain ⟨p, m, h1, h2, rfl⟩ := pgs_at L A i s hs
  obtain ⟨p', h1', hf, d0, d1⟩ := h.at_ h2
  rw [h1] at h1'; cases h1'
  rw [Nat.zero_add]
  exact ⟨d0, d1, hf.rd, hf.2.2.2.2.2, hf.2.2.2.1, hf.2.2.2.2.1, by have := hf.2.2.1; dsimp only; omega⟩
theorem layM_facts : ∀ (S : List Pg) {M : List KV}, StU.Ris M → S.Pairwise (fun a b => a.k < b.k) → (∀ s ∈ S, hs s.k M = false) →
    StU.Ris (layM S M) ∧ (∀ x, hs x (layM S M) = (hs x M || hs x (S.map kv))) ∧ (∀ s ∈ S, gtM s.k (layM S M) = s.ys) ∧ (∀ x, hs x M = true → gtM x (layM S M) = gtM x M) ∧ (layM S M).length = M.length + S.length
  | [], M, hr, _, _ => ⟨hr, fun x => by simp [layM, hs], fun s h => by simp at h, fun x _ => rfl, rfl⟩
  | s :: S, M, hr, hp, hn => by
    obtain ⟨p1, p2⟩ := List.pairwise_cons.1 hp
    have hp1 := ris_put hr s.k s.ys
    have hs0 := hn s (by simp)
    have hn1 : ∀ q ∈ S, hs q.k (putM s.k s.ys M) = false := fun q hq => by
      rw [hs_put, hn q (by simp [hq]), Bool.false_or]
      have := p1 q hq
      exact decide_eq_false (by omega)
    obtain ⟨f1, f2, f3, f4, f5⟩ := layM_facts S hp1 p2 hn1
    have e : layM (s :: S) M = layM S (putM s.k s.ys M) := rfl
    rw [e]
    refine ⟨f1, fun x => ?_, fun q hq => ?_, fun x hx => ?_, ?_⟩
    · rw [f2, hs_put, Bool.or_assoc]; rfl
    · rcases List.mem_cons.1 hq with rfl | hq
      · have h1 : hs q.k (putM q.k q.ys M) = true := by rw [hs_put]; simp
        rw [f4 _ h1, gt_put hr hp1 _ h1, if_pos rfl]
      · exact f3 q hq
    · have h1 : hs x (putM s.k s.ys M) = true := by rw [hs_put, hx]; rfl
      rw [f4 _ h1, gt_put hr hp1 _ h1, if_neg (fun e => by rw [e, hx] at hs0; cases hs0)]
    · rw [f5, putM_length, hs0]
      simp; omega
/-- two shelves that hold together what one held -/
structure Tg (M0 Ma Mb : List KV) : Prop where
  dj : ∀ x, hs x Ma = true → hs x Mb = false
  al : ∀ x, hs x M0 = (hs x Ma || hs x Mb)
  ga : ∀ x, hs x Ma = true → gtM x Ma = gtM x M0
  gb : ∀ x, hs x Mb = true → gtM x Mb = gtM x M0
  ln : Ma.length + Mb.length = M0.length
theorem Tg.swap {M0 Ma Mb : List KV} (h : Tg M0 Ma Mb) : Tg M0 Mb Ma :=
  ⟨fun x hx => (by
    cases ha : hs x Ma with
    | false => rfl
    | true =>
      rw [h.dj x ha] at hx
      exact Bool.noConfusion hx), fun x => by rw [h.al, Bool.or_comm], h.gb, h.ga, by have := h.ln; omega⟩
theorem Tg.start (M : List KV) : Tg M M [] := ⟨fun x _ => rfl, fun x => by simp [hs], fun x _ => rfl, fun x h => by simp [hs] at h, rfl⟩
theorem hs_rg (lo hi x : Int) (M : List KV) : hs x (rg lo hi M) = (hs x M && (decide (lo ≤ x) && decide (x ≤ hi))) :=
  hs_filter (fun a => decide (lo ≤ a) && decide (a ≤ hi)) x M
theorem hs_cut (lo hi x : Int) (M : List KV) : hs x (cutM lo hi M) = (hs x M && !(decide (lo ≤ x) && decide (x ≤ hi))) :=
  hs_filter (fun a => !(decide (lo ≤ a) && decide (a ≤ hi))) x M
theorem pair_of {S : List Pg} {A : List KV} (h : S.map kv = A) (hr : StU.Ris A) : S.Pairwise (fun a b => a.k < b.k) := by
  rw [← h] at hr
  unfold StU.Ris at hr
  rw [List.pairwise_map] at hr
  exact hr
theorem Tg.new {M0 Ma Mb : List KV} (h : Tg M0 Ma Mb) {lo hi : Int} {S : List Pg} (hS : S.map kv = rg lo hi Ma) : ∀ s ∈ S, hs s.k Mb = false := fun s hm => by
  have h1 : kv s ∈ rg lo hi Ma := by rw [← hS]; exact List.mem_map_of_mem hm
  have h2 := (rg_mem h1).1
  refine h.dj _ ?_
  unfold hs
  exact List.any_eq_true.2 ⟨_, h2, by simp [kv]⟩
theorem Tg.move {M0 Ma Mb : List KV} (h : Tg M0 Ma Mb) (ra : StU.Ris Ma) (rb : StU.Ris Mb) (lo hi : Int) {S : List Pg} (hS : S.map kv = rg lo hi Ma) : Tg M0 (cutM lo hi Ma) (layM S Mb) := by
  obtain ⟨f1, f2, f3, f4, f5⟩ := layM_facts S rb (pair_of hS (ra.rg lo hi)) (h.new hS)
  have hx2 : ∀ x, hs x (layM S Mb) = (hs x Mb || (hs x Ma && (decide (lo ≤ x) && decide (x ≤ hi)))) := fun x => by rw [f2, hS, hs_rg]
  refine ⟨fun x hx => ?_, fun x => ?_, fun x hx => ?_, fun x hx => ?_, ?_⟩
  · rw [hs_cut, Bool.and_eq_true] at hx
    rw [hx2, h.dj x hx.1, Bool.false_or, hx.1, Bool.true_and]
    have h9 := hx.2
    generalize (decide (lo ≤ x) && decide (x ≤ hi)) = bb at *
    cases bb
    · rfl
    · exact Bool.noConfusion h9
  · rw [hx2, hs_cut, h.al]
    cases hs x Ma <;> cases hs x Mb <;> cases (decide (lo ≤ x) && decide (x ≤ hi)) <;> rfl
  · rw [hs_cut, Bool.and_eq_true] at hx
    rw [← h.ga x hx.1]
    exact gt_filter ra (fun a => !(decide (lo ≤ a) && decide (a ≤ hi))) x hx.1 hx.2
  · cases hb : hs x Mb with
    | true => rw [f4 x hb]; exact h.gb x hb
    | false =>
      have hr : hs x (rg lo hi Ma) = true := by
        rw [f2, hb, Bool.false_or, hS] at hx; exact hx
      obtain ⟨m, hm, e, g⟩ := (ra.rg lo hi).at_key hr
      have hm' := hm
      rw [← hS] at hm'
      obtain ⟨s, hs1, hs2⟩ := List.mem_map.1 hm'
      have hk : s.k = x := by rw [← e, ← hs2]; rfl
      have h3 := f3 s hs1
      rw [hk] at h3
      rw [h3]
      have hxa : hs x Ma = true := by rw [hs_rg, Bool.and_eq_true] at hr; exact hr.1
      rw [← h.ga x hxa]
      have := (ra.get (rg_mem hm).1).2
      rw [e] at this
      rw [this, ← hs2]; rfl
  · rw [f5]
    have h1 := len_part (inR lo hi) Ma
    have h2 := congrArg List.length hS
    rw [List.length_map] at h2
    have h3 := h.ln
    have h4 : (rg lo hi Ma).length + (cutM lo hi Ma).length = Ma.length := h1
    omega
def V3 (M : List KV) : Prop := ∀ m ∈ M, m.2.length = 3
theorem V3.sum : ∀ {M : List KV}, V3 M → sumB M = 3 * M.length
  | [], _ => rfl
  | m :: M, h => by
    have h1 := h m (by simp)
    have h2 := V3.sum (M := M) (fun q hq => h q (by simp [hq]))
    rw [sumB_cons, List.length_cons]; omega
theorem V3.put {M : List KV} (h : V3 M) (hr : StU.Ris M) (k : Int) (ys : List Int) (hy : ys.length = 3) : V3 (putM k ys M) := fun m hm => by
  have hp := ris_put hr k ys
  obtain ⟨h1, h2⟩ := hp.get hm
  rw [gt_put hr hp _ h1] at h2
  by_cases e : k = m.1
  · rw [if_pos e] at h2; rw [← h2]; exact hy
  · rw [if_neg e] at h2
    have h3 : hs m.1 M = true := by rw [hs_put] at h1; simpa [e] using h1
    obtain ⟨q, hq, _, g⟩ := hr.at_key h3
    rw [← h2, g]; exact h q hq
theorem Tg.va {M0 Ma Mb : List KV} (h : Tg M0 Ma Mb) (h0 : V3 M0) (r0 : StU.Ris M0) (ra : StU.Ris Ma) : V3 Ma := fun m hm => by
  obtain ⟨h1, h2⟩ := ra.get hm
  rw [h.ga _ h1] at h2
  have h3 : hs m.1 M0 = true := by rw [h.al, h1]; rfl
  obtain ⟨q, hq, _, g⟩ := r0.at_key h3
  rw [← h2, g]; exact h0 q hq
/-- where the first loop stands -/
structure Lo1 (S : List Int) (i : Nat) (ls : List Nat) (M : List KV) : Prop where
  ln : ls.length = M.length
  le : ls.length ≤ i
  at_ : ∀ l ∈ ls, l < i ∧ ∃ k, S[l]? = some k ∧ hs k M = true ∧ gtM k M = vl l k
  v3 : V3 M
theorem Lo1.first {S : List Int} {i : Nat} {ls : List Nat} {M : List KV} (h : Lo1 S i ls M) (hr : StU.Ris M) {k : Int} (hk : S[i]? = some k) (hn : hs k M = false) : Lo1 S (i + 1) (ls ++ [i]) (putM k (vl i k) M) := by
  have hp := ris_put hr k (vl i k)
  refine ⟨?_, by have := h.le; simp; omega, fun l hl => ?_, h.v3.put hr k _ rfl⟩
  · rw [List.length_append, putM_length, hn, h.ln]; rfl
  · rcases List.mem_append.1 hl with hl | hl
    · obtain ⟨h1, k', h2, h3, h4⟩ := h.at_ l hl
      have h5 : hs k' (putM k (vl i k) M) = true := by rw [hs_put, h3]; rfl
      refine ⟨by omega, k', h2, h5, ?_⟩
      rw [gt_put hr hp _ h5, if_neg (fun e => by rw [e, h3] at hn; cases hn)]; exact h4
    · have hl : l = i := by simpa using hl
      subst hl
      have h5 : hs k (putM k (vl l k) M) = true := by rw [hs_put]; simp
      exact ⟨by omega, k, hk, h5, by rw [gt_put hr hp _ h5, if_pos rfl]⟩
/-- where the loop within it stands -/
structure Lo2 (S : List Int) (i j : Nat) (k : Int) (ls : List Nat) (M : List KV) : Prop where
  ln : ls.length = M.length
  le : ls.length ≤ i + 1
  at_ : ∀ (q l : Nat), ls[q]? = some l → l < i + 1 ∧ ∃ k', S[l]? = some k' ∧ hs k' M = true ∧ ((q < j ∨ k' ≠ k) → gtM k' M = vl l k')
  hk : S[i]? = some k ∧ hs k M = true ∧ gtM k M = vl i k
  v3 : V3 M
theorem Lo1.again {S : List Int} {i : Nat} {ls : List Nat} {M : List KV} (h : Lo1 S i ls M) (hr : StU.Ris M) {k : Int} (hk : S[i]? = some k) (hn : hs k M = true) : Lo2 S i 0 k ls (putM k (vl i k) M) := by
  have hp := ris_put hr k (vl i k)
  have h6 : hs k (putM k (vl i k) M) = true := by rw [hs_put]; simp
  refine ⟨?_, by have := h.le; omega, fun q l hl => ?_, ⟨hk, h6, by rw [gt_put hr hp _ h6, if_pos rfl]⟩, h.v3.put hr k _ rfl⟩
  · rw [putM_length, hn, h.ln]; rfl
  · obtain ⟨h1, k', h2, h3, h4⟩ := h.at_ l (List.mem_of_getElem? hl)
    have h5 : hs k' (putM k (vl i k) M) = true := by rw [hs_put, h3]; rfl
    refine ⟨by omega, k', h2, h5, fun hq => ?_⟩
    rcases hq with hq | hq
    · omega
    · rw [gt_put hr hp _ h5, if_neg (fun e => hq e.symm)]; exact h4
theorem Lo2.other {S : List Int} {i j : Nat} {k : Int} {ls : List Nat} {M : List KV} (h : Lo2 S i j k ls M) {l : Nat} {k' : Int} (hl : ls[j]? = some l) (hk' : S[l]? = some k') (hne : k' ≠ k) : Lo2 S i (j + 1) k ls M :=
  ⟨h.ln, h.le, fun q l' hl' => by
    obtain ⟨h1, k2, h2, h3, h4⟩ := h.at_ q l' hl'
    refine ⟨h1, k2, h2, h3, fun hq => ?_⟩
    by_cases e : q = j
    · subst e
      rw [hl] at hl'; cases hl'
      rw [hk'] at h2; cases h2
      exact h4 (.inr hne)
    · exact h4 (hq.imp (fun h => by omega) id), h.hk, h.v3⟩
theorem Lo2.same {S : List Int} {i j : Nat} {k : Int} {ls : List Nat} {M : List KV} (h : Lo2 S i j k ls M) : Lo2 S i (j + 1) k (ls.set j i) M :=
  ⟨by rw [List.length_set]; exact h.ln, by rw [List.length_set]; exact h.le, fun q l' hl' => by
    by_cases e : q = j
    · subst e
      have hlt : q < ls.length := by
        have := (List.getElem?_eq_some_iff.1 hl').1
        rwa [List.length_set] at this
      rw [List.getElem?_set_self hlt] at hl'; cases hl'
      exact ⟨by omega, k, h.hk.1, h.hk.2.1, fun _ => h.hk.2.2⟩
    · rw [List.getElem?_set_ne (fun h => e h.symm)] at hl'
      obtain ⟨h1, k2, h2, h3, h4⟩ := h.at_ q l' hl'
      exact ⟨h1, k2, h2, h3, fun hq => h4 (hq.imp (fun h => by omega) id)⟩, h.hk, h.v3⟩
theorem Lo2.done {S : List Int} {i : Nat} {k : Int} {ls : List Nat} {M : List KV} (h : Lo2 S i ls.length k ls M) : Lo1 S (i + 1) ls M :=
  ⟨h.ln, h.le, fun l hl => by
    obtain ⟨q, hq⟩ := List.mem_iff_getElem?.1 hl
    obtain ⟨h1, k2, h2, h3, h4⟩ := h.at_ q l hq
    exact ⟨h1, k2, h2, h3, h4 (.inl (List.getElem?_eq_some_iff.1 hq).1)⟩, h.v3⟩
/-- a key of the list lies on one of the two, with its value -/
theorem Tg.one {M0 Ma Mb : List KV} (h : Tg M0 Ma Mb) {S : List Int} {n : Nat} {ls : List Nat} (hl : Lo1 S n ls M0) {l : Nat} {k : Int} (hm : l ∈ ls) (hk : S[l]? = some k) :
    (hs k Ma = true ∧ hs k Mb = false ∧ gtM k Ma = vl l k ∧ gtM k Mb = []) ∨ (hs k Ma = false ∧ hs k Mb = true ∧ gtM k Ma = [] ∧ gtM k Mb = vl l k) := by
  obtain ⟨_, k', h2, h3, h4⟩ := hl.at_ l hm
  rw [hk] at h2; cases h2
  have h5 := h.al k
  rw [h3] at h5
  cases ha : hs k Ma with
  | true =>
    have hb := h.dj k ha
    exact .inl ⟨rfl, hb, by rw [h.ga k ha, h4], gtM_no hb⟩
  | false =>
    rw [ha, Bool.false_or] at h5
    exact .inr ⟨rfl, h5.symm, gtM_no ha, by rw [h.gb k h5.symm, h4]⟩
/-- Cut, whatever the range, with the other shelf beside -/
theorem cut_in {w : World} {fb fm gb gm : Nat} {N : Int} {tf tg : T (Int × Sv)} {Mf Mg : List KV} (hf : Sh w fb fm N tf Mf) (hg : Sh w gb gm N tg Mg) (h1 : gb ≠ fb) (h2 : gm ≠ fm) (lo hi g0 : Int) (hg0 : g0 = if lo ≤ hi then 0 else 74) :
    Calls Try.prog 63 #[.pointer (some ⟨fb, 0, none⟩), .int .u64 lo, .int .u64 hi] w fun e w' => ∃ pa pn pc, e = .returned (.tuple #[.slice pa pn pc, .int .i64 g0]) ∧ Hid (∃ S tf', Wp w' (.slice pa pn pc) S ∧ S.map kv = rg lo hi Mf ∧ Sh w' fb fm N tf' (cutM lo hi Mf) ∧ Sh w' gb gm N tg Mg) ∧ Kp (Sm fb fm) w w' := by
  by_cases hle : lo ≤ hi
  · rw [if_pos hle] at hg0
    subst hg0
    refine (cut_ok hf lo hi hle).mono ?_
    rintro e w' ⟨gk, L, K, e1, e2, e3, ⟨t', e4⟩, e5⟩
    exact ⟨_, _, _, e1, ⟨pgs L (rg lo hi Mf), t', e3.wp e2.symm, pgs_map e3.f, e4, hg.beside hf e5 h1 h2⟩, e5⟩
  · rw [if_neg hle] at hg0
    subst hg0
    refine (cut_no hf lo hi (by omega)).mono ?_
    rintro e w' ⟨e1, e2⟩
    subst e2
    have hn : rg lo hi Mf = [] := List.filter_eq_nil_iff.2 (fun m _ => by unfold inR; simp; omega)
    have hc : cutM lo hi Mf = Mf := List.filter_eq_self.2 (fun m _ => by unfold inR; simp; omega)
    exact ⟨_, _, _, e1, ⟨[], tf, ⟨none, 0, rfl, fun i s hs => by simp at hs⟩, by rw [hn]; rfl, by rw [hc]; exact hf, hg⟩, Kp.refl _ _⟩
theorem risp_of {S : List Pg} (h : S.Pairwise (fun a b => a.k < b.k)) : RisP S := fun i a b h1 h2 => by
  obtain ⟨l1, e1⟩ := List.getElem?_eq_some_iff.1 h1
  obtain ⟨l2, e2⟩ := List.getElem?_eq_some_iff.1 h2
  have := List.pairwise_iff_getElem.1 h i (i + 1) l1 l2 (by omega)
  rw [e1, e2] at this
  exact this
/-- Lay of what was cut out of the other shelf -/
theorem lay_in {w : World} {fb fm gb gm : Nat} {N : Int} {tf tg : T (Int × Sv)} {M0 Mf Mg : List KV} {lo hi : Int} {v : Value} {S : List Pg} (hf : Sh w fb fm N tf (cutM lo hi Mf)) (hg : Sh w gb gm N tg Mg) (h1 : fb ≠ gb) (h2 : fm ≠ gm) (hS : Wp w v S) (hSm : S.map kv = rg lo hi Mf) (rf : StU.Ris Mf) (h64 : ∀ m ∈ Mf, m.2.length ≤ 64) (htg : Tg M0 Mf Mg) (h0 : (M0.length : Int) ≤ N) :
    Calls Try.prog 64 #[.pointer (some ⟨gb, 0, none⟩), v] w fun e w' => e = .returned (.int .i64 0) ∧ Hid (∃ tg', Sh w' fb fm N tf (cutM lo hi Mf) ∧ Sh w' gb gm N tg' (layM S Mg) ∧ Tg M0 (cutM lo hi Mf) (layM S Mg)) ∧ Kp (Sm gb gm) w w' := by
  have hSl : S.length = (rg lo hi Mf).length := by rw [← hSm, List.length_map]
  have hle : (rg lo hi Mf).length ≤ Mf.length := List.length_filter_le _ _
  have hln := htg.ln
  have hmo := hf.mo
  refine (lay_any hg v S hS (by omega)).mono ?_
  rintro e w' ⟨c, e1, hb, ⟨t', e2⟩, e3⟩
  have hn := htg.new hSm
  have hp := risp_of (pair_of hSm (rf.rg lo hi))
  have h6 : ∀ s ∈ S, s.ys.length ≤ 64 := fun s hs => by
    have h3 : kv s ∈ rg lo hi Mf := by rw [← hSm]; exact List.mem_map_of_mem hs
    exact h64 _ (rg_mem h3).1
  have hc : c = 0 := by
    rcases hb with ⟨a, _⟩ | ⟨_, ⟨s, hs, a⟩, _⟩ | ⟨_, _, ⟨s, hs, a⟩, _⟩ | ⟨_, _, _, a, _⟩ | ⟨_, _, _, _, rfl⟩
    · exact absurd hp a
    · have := h6 s hs; omega
    · rw [hn s hs] at a; cases a
    · omega
    · rfl
  subst hc
  rw [if_pos rfl] at e2
  exact ⟨e1, ⟨t', hf.beside hg e3 h1 h2, e2, htg.move rf hg.ris lo hi hSm⟩, e3⟩
theorem count_in {w : World} {fb fm : Nat} {N : Int} {tf : T (Int × Sv)} {Mf : List KV} {lo hi : Int} (hf : Sh w fb fm N tf (cutM lo hi Mf)) :
    Calls Try.prog 54 #[.pointer (some ⟨fb, 0, none⟩), .int .u64 lo, .int .u64 hi] w fun e w' => e = .returned (.int .i64 0) ∧ Kp Nu w w' := by
  have := count_any54 hf lo hi
  have e : rg lo hi (cutM lo hi Mf) = [] := List.filter_eq_nil_iff.2 (fun m hm => by
    have := (List.mem_filter.1 hm).2
    intro h; rw [h] at this; cases this)
  rw [e] at this
  exact this
theorem Sh.m64 {w : World} {sb mb : Nat} {most : Int} {t : T (Int × Sv)} {M : List KV} (h : Sh w sb mb most t M) : ∀ m ∈ M, m.2.length ≤ 64 := fun m hm => by
  obtain ⟨p, _, hf⟩ := h.vs.mem m hm
  exact hf.2.2.1
end Go.Proofs.Ytchealdgncgjoaa.StU
namespace Go.Proofs.Ytchealdgncgjoaa.StU
open Go.RowKit Go.Proofs.Ytchealdgncgjoaa.St Go.Shelf
set_option linter.unusedVariables false
/-- the document's shelf in memory -/
structure Rs (w : World) (rb : Nat) (most : Int) (v : Sv) (L : List (Int × Sv)) (M : List KV) : Prop where
  box : w.heap[rb]? = some (.cells #[.int .i64 most, .slice v.a v.n v.c] 190 (0, 0))
  own : w.ownsRow 0 196 2 (.slice v.a v.n v.c) L.length (pc L)
  f : F2 (FV w) L M
  ris : StU.Ris M
  lm : (M.length : Int) ≤ most
  mo : most ≤ 32768
theorem pair_at {w : World} {ty B n i : Nat} {v : Value} {l : List Value} {a b : Value} (h : w.ownsRow B ty 2 v n l) (h0 : l[i * 2]? = some a) (h1 : l[i * 2 + 1]? = some b) : ∃ r cap, v = .slice (some ⟨r, 0, none⟩) n cap ∧ i < n ∧ w.cell? ⟨r, i * 2, none⟩ = some a ∧ w.cell? ⟨r, i * 2 + 1, none⟩ = some b := by
  have hlt : i * 2 + 1 < l.length := (List.getElem?_eq_some_iff.1 h1).1
  have hl := h.1
  rcases h.2 with ⟨_, h0⟩ | ⟨r, cap, cur, e, hB, hg, h2, h3, h4, h5⟩
  · omega
  · refine ⟨r, cap, e, by omega, ?_, ?_⟩
    · have e1 : cur.toList[i * 2]? = some a := by
        rw [← h5, List.getElem?_take_of_lt (by omega)] at h0
        exact h0
      simpa [World.cell?, hg] using e1
    · have e1 : cur.toList[i * 2 + 1]? = some b := by
        rw [← h5, List.getElem?_take_of_lt (by omega)] at h1
        exact h1
      simpa [World.cell?, hg] using e1
section
variable {w : World} {rb : Nat} {most : Int} {v : Sv} {L : List (Int × Sv)} {M : List KV}
theorem Rs.len (h : Rs w rb most v L M) : L.length = M.length := h.f.length
theorem Rs.n (h : Rs w rb most v L M) : v.n = M.length := by
  obtain ⟨ad, cap, e⟩ := own_slice h.own
  rw [(Value.slice.inj e).2.1, h.len]
theorem Rs.at_ (h : Rs w rb most v L M) {j : Nat} {m : KV} (hj : M[j]? = some m) : ∃ p r, L[j]? = some p ∧ FV w p m ∧ v.a = some ⟨r, 0, none⟩ ∧ w.cell? ⟨r, j * 2, none⟩ = some (.int .u64 m.1) ∧ w.cell? ⟨r, j * 2 + 1, none⟩ = some (.slice p.2.a p.2.n p.2.c) := by
  obtain ⟨p, hp⟩ : ∃ p, L[j]? = some p := ⟨_, List.getElem?_eq_getElem (by rw [h.len]; exact (List.getElem?_eq_some_iff.1 hj).1)⟩
  have hf : FV w p m := by
    have := h.f
    clear h
    induction L generalizing M j with
    | nil => simp at hp
    | cons a L ih =>
      cases M with
      | nil => simp at hj
      | cons b M =>
        cases j with
        | zero => simp at hp hj; subst hp; subst hj; exact this.1
        | succ j => exact ih (by simpa using hj) (by simpa using hp) this.2
  obtain ⟨q0, q1⟩ := pc_at L j p hp
  obtain ⟨r, cap, e, _, d0, d1⟩ := pair_at h.own q0 q1
  rw [hf.1] at d0
  exact ⟨p, r, hp, hf, (Value.slice.inj e).1, d0, d1⟩
theorem Rs.nu {w' : World} (h : Rs w rb most v L M) (k : Kp Nu w w') : Rs w' rb most v L M :=
  ⟨(k.block _ (blk_lt h.box) (fun e => e)).trans h.box, own_keep h.own (fun g e => k.block g (own_lt h.own e) (fun e => e)), h.f.imp (fun p m hf => hf.keep k (fun _ _ hs => hs.elim)), h.ris, h.lm, h.mo⟩
theorem cell_box {b : Nat} {x y : Value} {t : TypeId} (h : w.heap[b]? = some (.cells #[x, y] t (0, 0))) : w.cell? ⟨b, 0, none⟩ = some x ∧ w.cell? ⟨b, 0 + 1, none⟩ = some y := cell2 h
set_option maxHeartbeats 400000 in
theorem new71 (w : World) (most : Int) (h0 : 0 ≤ most) (h1 : most ≤ 32768) : Calls Try.prog 71 #[.int .i64 most] w fun e w' => ∃ rb, e = .returned (.tuple #[.pointer (some ⟨rb, 0, none⟩), .int .i64 0]) ∧ w.heap.size ≤ rb ∧ Rs w' rb most ⟨none, 0, 0⟩ [] [] ∧ Kp Nu w w' := by
  have hl0 : ¬ most < 0 := by omega
  have hl1 : ¬ 32768 < most := by omega
  have HH := hide (And.intro h0 h1)
  clear h0 h1
  go_enter Try.func71, Try.ntmps71
  go_wp2
  go_ret2
  exact ⟨_, rfl, Nat.le_refl _, ⟨heap_alloc_new _ _, own_nil', trivial, List.Pairwise.nil, HH.out.1, HH.out.2⟩, Kp.alloc _ _ _⟩
set_option maxHeartbeats 400000 in
theorem new_no71 (w : World) (most : Int) (h : most < 0 ∨ 32768 < most) : Calls Try.prog 71 #[.int .i64 most] w fun e w' => e = .returned (.tuple #[.pointer none, .int .i64 2]) ∧ w' = w := by
  by_cases h0 : most < 0
  · clear h
    go_enter Try.func71, Try.ntmps71
    go_wp2
    go_ret2
    exact ⟨rfl, rfl⟩
  · have h1 : 32768 < most := by omega
    clear h
    go_enter Try.func71, Try.ntmps71
    go_wp2
    go_ret2
    exact ⟨rfl, rfl⟩
set_option maxHeartbeats 400000 in
theorem len142 (h : Rs w rb most v L M) : Calls Try.prog 142 #[.pointer (some ⟨rb, 0, none⟩)] w fun e w' => e = .returned (.int .i64 (M.length : Int)) ∧ w' = w := by
  have c := (cell2 h.box).2
  have hn := h.n
  obtain ⟨va, vn, vc⟩ := v
  simp only at hn c
  rw [← hn]
  clear h hn
  go_enter Try.func142, Try.ntmps142
  go_wp2
  go_ret
  exact ⟨rfl, rfl⟩
set_option maxHeartbeats 400000 in
theorem len_nil142 (w : World) : Calls Try.prog 142 #[.pointer none] w fun e w' => e = .returned (.int .i64 0) ∧ w' = w := by
  go_enter Try.func142, Try.ntmps142
  go_wp2
  go_ret
  exact ⟨rfl, rfl⟩
set_option maxHeartbeats 1000000 in
theorem find183 (h : Rs w rb most v L M) (k z : Int) (hz : z = if hs k M then (pl k M : Int) else -1) : Calls Try.prog 183 #[.pointer (some ⟨rb, 0, none⟩), .int .u64 k] w fun e w' => e = .returned (.int .i64 z) ∧ w' = w := by
  have c := (cell2 h.box).2
  have hn := h.n
  obtain ⟨N, eN⟩ : ∃ N, M.length = N := ⟨_, rfl⟩
  have hN : N ≤ 32768 := by have := h.lm; have := h.mo; omega
  rw [eN] at hn
  obtain ⟨va, vn, vc⟩ := v
  simp only at hn c
  subst hn
  have HH := hide (And.intro h (And.intro hz (And.intro eN hN)))
  clear h hz eN hN
  go_enter Try.func183, Try.ntmps183
  go_wp2_with fail
  go_loopw [5] (fun it wr => ∃ i : Nat, it = .int .i64 (i : Int) ∧ i ≤ vn ∧ Hid (∀ j m, j < i → M[j]? = some m → m.1 ≠ k) ∧ wr = w) (fun it _ => vn - (intOf it).toNat)
  case atStart => exact ⟨0, rfl, Nat.zero_le _, fun j m hj => by omega, rfl⟩
  case round =>
    obtain ⟨i, rfl, hi, HI, rfl⟩ := hrel
    by_cases hlt : i < vn
    · obtain ⟨m, hm⟩ : ∃ m, M[i]? = some m := ⟨_, List.getElem?_eq_getElem (by rw [HH.out.2.2.1]; exact hlt)⟩
      obtain ⟨p, r, hp, hf, er, d0, d1⟩ := HH.out.1.at_ hm
      simp only at er
      subst er
      have hltI : (i : Int) < (vn : Int) := by omega
      have hi0 : (0 : Int) ≤ (i : Int) := by omega
      have hwi : wrap64 ((i : Int) + 1) = ((i + 1 : Nat) : Int) := by have := HH.out.2.2.2; unfold wrap64; omega
      by_cases hk : m.1 = k
      · have HZ : Hid (z = (i : Int)) := by
          have h1 := HH.out.2.1
          have h2 := HH.out.1.ris.pl hm
          have h3 := (HH.out.1.ris.get (List.mem_of_getElem? hm)).1
          rw [hk] at h2 h3
          rw [h3, h2] at h1
          exact h1
        have hb : (m.1 == k) = true := by simp [hk]
        generalize m.1 = mk at *
        clear hm hp hf hlt hi hwi HI hk d1
        go_wp2
        go_ret
        exact ⟨by rw [HZ.out]; rfl, rfl⟩
      · have HF : Hid (i < vn ∧ wrap64 ((i : Int) + 1) = ((i + 1 : Nat) : Int) ∧ ∀ j m, j < i + 1 → M[j]? = some m → m.1 ≠ k) := by
          refine ⟨hlt, hwi, fun j q hj hq => ?_⟩
          by_cases e : j = i
          · subst e; rw [hm] at hq; cases hq; exact hk
          · exact HI.out j q (by omega) hq
        have hb : (m.1 == k) = false := by simp [hk]
        generalize m.1 = mk at *
        clear hm hp hf hlt hi hwi HI hk d1
        go_wp2
        exact ⟨⟨i + 1, by rw [HF.out.2.1], HF.out.1, HF.out.2.2, trivial⟩, lt_mi HF.out.2.1 HF.out.1⟩
    · obtain rfl : i = vn := by omega
      have HZ : Hid (z = -1) := by
        have h1 := HH.out.2.1
        have h3 : StU.hs k M = false := by
          unfold StU.hs
          refine List.any_eq_false.2 (fun m hm => ?_)
          obtain ⟨j, hj⟩ := List.mem_iff_getElem?.1 hm
          have h4 := HI.out j m (by rw [← HH.out.2.2.1]; exact (List.getElem?_eq_some_iff.1 hj).1) hj
          simpa using h4
        rw [h3] at h1
        exact h1
      have hnl : ¬ (i : Int) < (i : Int) := by omega
      clear HI hlt hi
      go_wp2
      go_ret
      exact ⟨by rw [HZ.out]; rfl, rfl⟩
end
end Go.Proofs.Ytchealdgncgjoaa.StU
namespace Go.Proofs.Ytchealdgncgjoaa.StU
open Go.RowKit Go.Proofs.Ytchealdgncgjoaa.St Go.Shelf
set_option linter.unusedVariables false
theorem row5_low {V : World} {B : Nat} {n : Nat} {l : List Value} {v : Value} (h : V.ownsRow B 5 1 v n l) {g : Nat} (hg : v.ownBlock = some g) : B ≤ g := by
  rcases h.2 with ⟨rfl, h0⟩ | ⟨g', cap, cur, rfl, hb', hg', _⟩
  · cases hg
  · simp [Value.ownBlock] at hg; subst hg; exact hb'
theorem info5R : (Try.prog.info? 5).map (fun i => (i.zero, i.size, i.bytes)) = some (some (.int .u8 0), 1, 1) := by kernel_rfl
set_option maxRecDepth 100000 in
set_option maxHeartbeats 2000000 in
theorem copied184 (w : World) (u : Value) (ys : List Int) (hu : Rd w u ys) (hN : ys.length ≤ 140737488355328) : Calls Try.prog 184 #[u] w fun e w' => ∃ v : Sv, e = .returned (.slice v.a v.n v.c) ∧ w'.ownsRow w.heap.size 5 1 (.slice v.a v.n v.c) ys.length (cs ys) ∧ Kp Nu w w' := by
  obtain ⟨ad, cap, rfl⟩ := hu.slice
  obtain ⟨N, eN⟩ : ∃ N, ys.length = N := ⟨_, rfl⟩
  have HU := hide (And.intro hu (And.intro eN hN))
  rw [eN] at hN ⊢
  have hNb := hide hN
  clear hu hN eN
  obtain ⟨i0, hi0, hz0, hz1, hz2⟩ := info_parts info5R
  go_enter Try.func184, Try.ntmps184
  go_wp2_with fail
  go_loopw [3, 4] (fun lv it wr => ∃ (i ac : Nat) (ao : Option Addr), it = .int .i64 (i : Int) ∧ lv = .slice ao i ac ∧ i ≤ N ∧ Hid (wr.ownsRow w.heap.size 5 1 (.slice ao i ac) i (cs (ys.take i)) ∧ Kp Nu w wr)) (fun _ it _ => N - (intOf it).toNat)
  case atStart => exact ⟨0, 0, none, rfl, rfl, Nat.zero_le _, own_nil', Kp.refl _ _⟩
  case round =>
    obtain ⟨i, ac, ao, rfl, rfl, hi, HI⟩ := hrel
    obtain ⟨ho, kw⟩ := HI.out
    by_cases hlt : i < N
    · obtain ⟨y, hy⟩ : ∃ y, ys[i]? = some y := ⟨_, List.getElem?_eq_getElem (by rw [HU.out.2.1]; exact hlt)⟩
      have hr := HU.out.1.nu kw
      obtain ⟨a', cap', ea, hcell⟩ : ∃ a' cap', Value.slice ad ys.length cap = .slice (some a') ys.length cap' ∧ ∀ j x, (cs ys)[j]? = some x → wr.cell? (a'.add j) = some x := by
        rcases hr with ⟨e, e2⟩ | ⟨a', cap', e, hc⟩
        · rw [e2] at hy; simp at hy
        · exact ⟨a', cap', e, hc⟩
      rw [HU.out.2.1] at ea
      cases ea
      have d0 := hcell i (.int .u8 y) (by simp [cs, hy])
      have hsp : a'.spot = none := by
        obtain ⟨y0, hy0⟩ : ∃ y0, ys[0]? = some y0 := ⟨_, List.getElem?_eq_getElem (by rw [HU.out.2.1]; omega)⟩
        have h1 := hcell 0 (.int .u8 y0) (by simp [cs, hy0])
        have e : a'.add 0 = a' := by simp [Addr.add]
        rw [e] at h1
        exact spot_none1 h1
      obtain ⟨b, off, sp⟩ := a'
      simp only at hsp
      subst hsp
      rw [Addr.add_lit] at d0
      have hltI : (i : Int) < (N : Int) := by omega
      have hi00 : (0 : Int) ≤ (i : Int) := by omega
      have hwi : wrap64 ((i : Int) + 1) = ((i + 1 : Nat) : Int) := by have := hNb.out; unfold wrap64; omega
      have HW := hide (And.intro hlt (And.intro hwi (And.intro ho kw)))
      have HY := hide (show cs (ys.take (i + 1)) = cs (ys.take i) ++ [.int .u8 y] by rw [List.take_add_one, hy]; simp [cs])
      clear hy hr hcell hwi hlt hi HI kw
      go_wp2_with (at_builtin; refine wpList_append_own _ rfl _ _ 74 rfl w.heap.size 5 i0 _ 1 1 Try.underlying74 hi0 hz0 hz1 hz2 rfl (by decide) _ i _ rfl (own_keep ho (fun g hg => Below.heap_alloc _ _ _ (own_lt ho hg))) ⟨wr.heap.size, 0, none⟩ 1 1 [.int .u8 y] rfl ?qc1 ?qc2 ?qc3 ?qc4 ?qc5 ?qc6 ?_)
      case qc1 => rfl
      case qc2 => exact cell_one_new _ _ _
      case qc3 => intro x hx; simp at hx; rw [hx]; rfl
      case qc4 => have := hNb.out; have := HW.out.1; unfold maxLen; omega
      case qc5 => have := hNb.out; have := HW.out.1; omega
      case qc6 => have := HW.out.2.2.2.size; simp; omega
      intro v' w6 hown hgrow hnil
      have kk : Kp Nu w w6 := (HW.out.2.2.2.andNu (Kp.alloc _ _ _)).trans (Kp.of_grown hgrow) (fun i hi e => by have := row5_low HW.out.2.2.1 e.symm; omega)
      obtain ⟨av, cv, ev⟩ := own_slice hown
      subst ev
      have HF : Hid (w6.ownsRow w.heap.size 5 1 (.slice av (i + 1) cv) (i + 1) (cs (ys.take (i + 1))) ∧ Kp Nu w w6) := by
        rw [HY.out]; exact ⟨hown, kk⟩
      clear hown hgrow hnil kk ho d0
      go_wp2
      exact ⟨⟨i + 1, cv, av, by rw [HW.out.2.1], rfl, HW.out.1, HF⟩, lt_mi HW.out.2.1 HW.out.1⟩
    · obtain rfl : i = N := by omega
      rw [List.take_of_length_le (by rw [HU.out.2.1]; exact Nat.le_refl _)] at ho
      have HZ := hide (And.intro ho kw)
      have hnl : ¬ (i : Int) < (i : Int) := by omega
      clear ho kw HI hlt hi
      go_wp2
      go_ret
      exact ⟨⟨ao, i, ac⟩, rfl, HZ.out.1, HZ.out.2⟩
end Go.Proofs.Ytchealdgncgjoaa.StU
