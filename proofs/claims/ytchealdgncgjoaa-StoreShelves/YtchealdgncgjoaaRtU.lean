import Derived.Test.YtchealdgncgjoaaRtQ
import Derived.Test.YtchealdgncgjoaaRtE
import Derived.Test.YtchealdgncgjoaaRsJ
namespace Go.Proofs.Ytchealdgncgjoaa.StU
open Go.RowKit Go.Proofs.Ytchealdgncgjoaa.St Go.Shelf
set_option linter.unusedVariables false
set_option linter.unusedSimpArgs false
theorem not211 {w : World} {B e size n : Nat} {v : Value} {l : List Value} (h : w.ownsRow B e size v n l) (he : e ≠ 211) {g : Nat} (hg : v.ownBlock = some g) : ∀ c m, w.heap[g]? ≠ some (.cells c 211 m) := fun c m e1 => by
  obtain ⟨cur, hc⟩ := own_obj h hg
  rw [hc] at e1
  injection e1 with e1
  injection e1 with _ e2
  exact he e2
/-- a list that the program's shelf told -/
def Tp (w : World) (a : Value) (G : Nat → Prop) (A : List KV) : Prop := ∃ u L, a = sl u ∧ w.ownsRow 0 78 2 (sl u) u.n (pc L) ∧ F2 (FV w) L A ∧ Apt L ∧ ∀ i, Spn u L i → G i
/-- a list that the document's shelf told -/
def Td (w : World) (b : Value) (G : Nat → Prop) (A : List KV) : Prop := ∃ ua K R uc L A', b = .slice ua K uc ∧ Cr w 0 ⟨ua, R, uc⟩ L A' ∧ A = A'.take K ∧ K ≤ A'.length ∧ ∀ i, Spn ⟨ua, R, uc⟩ L i → G i
section
variable {w w' : World} {a b : Value} {G G' T : Nat → Prop} {A : List KV}
theorem Tp.keep (h : Tp w a G A) (k : Kg T w w') (hd : ∀ i, i < w.heap.size → T i → ¬ G i) : Tp w' a G A := by
  obtain ⟨u, L, e, h1, h2, h3, h4⟩ := h
  refine ⟨u, L, e, own_keep h1 (fun g hg => k.block g (own_lt h1 hg) (fun q => hd g (own_lt h1 hg) q.1 (h4 g (.inl hg)))), h2.imp2 (fun p m hp hf => hf.keep2 k (fun g hg q => hd g (own_lt hf.2.1 hg) q.1 (h4 g (.inr ⟨p, hp, hg⟩)))), h3, h4⟩
theorem Td.keep (h : Td w b G A) (k : Kg T w w') (hd : ∀ i, i < w.heap.size → T i → ¬ G i) : Td w' b G A := by
  obtain ⟨ua, K, R, uc, L, A', e, h1, h2, h3, h4⟩ := h
  exact ⟨ua, K, R, uc, L, A', e, ⟨own_keep h1.own (fun g hg => k.block g (own_lt h1.own hg) (fun q => hd g (own_lt h1.own hg) q.1 (h4 g (.inl hg)))), h1.f.imp2 (fun p m hp hf => hf.keep2 k (fun g hg q => hd g (own_lt hf.2.1 hg) q.1 (h4 g (.inr ⟨p, hp, hg⟩)))), h1.lo⟩, h2, h3, h4⟩
theorem Tp.mono (h : Tp w a G A) (hg : ∀ i, i < w.heap.size → G i → G' i) : Tp w a G' A := by
  obtain ⟨u, L, e, h1, h2, h3, h4⟩ := h
  refine ⟨u, L, e, h1, h2, h3, fun i hi => hg i ?_ (h4 i hi)⟩
  rcases hi with hi | ⟨p, hp, hi⟩
  · exact own_lt h1 hi
  · obtain ⟨j, hj⟩ := List.mem_iff_getElem?.1 hp
    obtain ⟨m, _, hf⟩ := h2.at hj
    exact own_lt hf.2.1 hi
theorem Td.mono (h : Td w b G A) (hg : ∀ i, i < w.heap.size → G i → G' i) : Td w b G' A := by
  obtain ⟨ua, K, R, uc, L, A', e, h1, h2, h3, h4⟩ := h
  refine ⟨ua, K, R, uc, L, A', e, h1, h2, h3, fun i hi => hg i ?_ (h4 i hi)⟩
  rcases hi with hi | ⟨p, hp, hi⟩
  · exact own_lt h1.own hi
  · obtain ⟨j, hj⟩ := List.mem_iff_getElem?.1 hp
    obtain ⟨m, _, hf⟩ := h1.f.at hj
    exact own_lt hf.2.1 hi
theorem Tp.nu (h : Tp w a G A) (k : Kp Nu w w') : Tp w' a G A := h.keep (T := fun _ => False) (Kg.nu k) (fun _ _ e => e.elim)
theorem Td.nu (h : Td w b G A) (k : Kp Nu w w') : Td w' b G A := h.keep (T := fun _ => False) (Kg.nu k) (fun _ _ e => e.elim)
theorem Tp.wp (h : Tp w a G A) : ∃ S, Wp w a S ∧ S.map kv = A := by
  obtain ⟨u, L, rfl, h1, h2, h3, h4⟩ := h
  refine ⟨pgs L A, ?_, pgs_map h2⟩
  have hl : (pgs L A).length = L.length := by
    have := congrArg List.length (pgs_map h2)
    rw [List.length_map] at this
    rw [this, h2.length]
  have hn : u.n = L.length := by have := h1.1; rw [pc_length] at this; omega
  obtain ⟨ua, un, uc⟩ := u
  simp only at hn
  subst hn
  refine ⟨ua, uc, by rw [hl], fun i s hs => ?_⟩
  obtain ⟨p, m, e1, e2, rfl⟩ := pgs_at L A i s hs
  obtain ⟨m', e2', hf⟩ := h2.at e1
  rw [e2] at e2'; cases e2'
  rcases h1.2 with ⟨ez, h0⟩ | ⟨g, cap, cur, ev, hb', hg, q1, q2, q3, q4⟩
  · have := (List.getElem?_eq_some_iff.1 e1).1
    simp only at h0; omega
  · simp only [sl] at ev
    have ev2 := Value.slice.inj ev
    obtain ⟨d0, d1⟩ := pc_at L i p e1
    have hcell : ∀ j x, (pc L)[j]? = some x → w.cell? ⟨g, j, none⟩ = some x := fun j x hx => by
      rw [← q4, List.getElem?_take] at hx
      split at hx
      · simp [World.cell?, hg, ← hx]
      · cases hx
    exact ⟨g, 0, ev2.1, by rw [Nat.zero_add]; exact hcell _ _ d0 |>.trans (by rw [hf.1]), by rw [Nat.zero_add]; exact hcell _ _ d1, hf.rd, hf.2.2.2.2.2, hf.2.2.2.1, hf.2.2.2.2.1, by have := hf.2.2.1; dsimp only; omega⟩
theorem Td.wp (h : Td w b G A) : ∃ S, Wp w b S ∧ S.map kv = A := by
  obtain ⟨ua, K, R, uc, L, A', rfl, h1, rfl, h3, h4⟩ := h
  exact ⟨(pgs L A').take K, h1.wp K h3, by rw [List.map_take, pgs_map h1.f]⟩
theorem Tp.spoil (h : Tp w a G A) (hA : A.length ≤ 4398046511000) : Calls Try.prog 188 #[a] w fun e w' => e = .returned (.bool true) ∧ Kg G w w' := by
  obtain ⟨u, L, rfl, h1, h2, h3, h4⟩ := h
  have hn : u.n = L.length := by have := h1.1; rw [pc_length] at this; omega
  have hv : Rws w L (fun q => cs ((A[q]?.map Prod.snd).getD [])) := fun q p hp => by
    obtain ⟨m, e2, hf⟩ := h2.at hp
    simp only [e2, Option.map_some, Option.getD_some]
    have := hf.2.1
    rw [← hf.n] at this
    exact this
  refine (spoilPairs188 (C0 := fun q => cs ((A[q]?.map Prod.snd).getD [])) h1 hv h3 (fun p hp => ?_) (by rw [hn, h2.length]; exact hA)).mono ?_
  · obtain ⟨j, hj⟩ := List.mem_iff_getElem?.1 hp
    obtain ⟨m, _, hf⟩ := h2.at hj
    have := hf.n; have := hf.2.2.1; omega
  · rintro e w' ⟨e1, e2⟩
    refine ⟨e1, Kg.of e2 (fun i hi hs => ⟨h4 i hs, ?_⟩)⟩
    rcases hs with hs | ⟨p, hp, hs⟩
    · exact not211 h1 (by decide) hs
    · obtain ⟨j, hj⟩ := List.mem_iff_getElem?.1 hp
      obtain ⟨m, _, hf⟩ := h2.at hj
      exact not211 hf.2.1 (by decide) hs
theorem tp_nil : Tp w (.slice none 0 0) G [] := ⟨⟨none, 0, 0⟩, [], rfl, ⟨rfl, .inl ⟨rfl, rfl⟩⟩, trivial, fun q r a b g h => by simp at h, fun i hi => by rcases hi with hi | ⟨p, hp, _⟩; cases hi; cases hp⟩
theorem td_nil : Td w (.slice none 0 0) G [] := ⟨none, 0, 0, 0, [], [], rfl, ⟨⟨rfl, .inl ⟨rfl, rfl⟩⟩, trivial, fun p hp => by cases hp⟩, rfl, Nat.le_refl _, fun i hi => by rcases hi with hi | ⟨p, hp, _⟩; cases hi; cases hp⟩
theorem Cd.tp {gk N B : Nat} {L : List (Int × Sv)} (h : Cd w B gk N L A) : Tp w (.slice (some ⟨gk, 0, none⟩) N N) (fun i => B ≤ i) A := by
  refine ⟨⟨some ⟨gk, 0, none⟩, N, N⟩, L, rfl, own_base h.own (Nat.zero_le _), h.f, apt_of h.ap, fun i hi => ?_⟩
  rcases hi with hi | ⟨p, hp, hi⟩
  · rcases h.own.2 with ⟨e, h0⟩ | ⟨g, cap, cur, e, hb, _⟩
    · cases e
    · cases e
      simp [sl, Value.ownBlock] at hi
      subst hi; exact hb
  · exact h.lo p hp i hi
theorem Cr.td {u : Sv} {B : Nat} {L : List (Int × Sv)} (h : Cr w B u L A) (K : Nat) (hK : K ≤ A.length) : Td w (.slice u.a K u.c) (fun i => B ≤ i) (A.take K) := by
  refine ⟨u.a, K, u.n, u.c, L, A, rfl, ⟨own_base h.own (Nat.zero_le _), h.f, fun _ _ _ _ => Nat.zero_le _⟩, rfl, hK, fun i hi => ?_⟩
  rcases hi with hi | ⟨p, hp, hi⟩
  · exact row196_low h.own hi
  · exact h.lo p hp i hi
end
section
variable {w w' : World} {a b : Value} {G G' T : Nat → Prop} {o : Om}
/-- how many pairs Scan tells -/
def scK (o : Om) (lo hi lim : Int) : Nat := min (rg lo hi (oM o)).length lim.toNat
abbrev scA (o : Om) (lo hi lim : Int) : List KV := (rg lo hi (oM o)).take (scK o lo hi lim)
abbrev scB (o : Om) (lo hi lim : Int) : Bool := decide (scK o lo hi lim < (rg lo hi (oM o)).length)
theorem Ps.small (h : Ps w a G o) : (oM o).length ≤ 32768 := by
  cases o with
  | none => exact Nat.zero_le _
  | some x => obtain ⟨sb, mb, t, rfl, hs, _⟩ := h; have := hs.lm; have := hs.mo; show x.2.length ≤ 32768; omega
theorem Ps.scan (h : Ps w a G o) (lo hi lim : Int) : Calls Try.prog 49 #[a, .int .u64 lo, .int .u64 hi, .int .i64 lim] w fun e w' => ∃ v, e = .returned (.tuple #[v, .bool (scB o lo hi lim)]) ∧ Hid (Tp w' v (fun i => w.heap.size ≤ i) (scA o lo hi lim)) ∧ Kp Nu w w' := by
  cases o with
  | none =>
    obtain rfl : a = .pointer none := h
    refine (nscan49 w lo hi lim).mono ?_
    rintro e w' ⟨gk, e1, e2, e3⟩
    exact ⟨_, e1, e2.tp, e3⟩
  | some x =>
    obtain ⟨sb, mb, t, rfl, hs, _⟩ := h
    refine (scan_any hs lo hi lim _ rfl).mono ?_
    rintro e w' ⟨gk, L, e1, e2, e3⟩
    exact ⟨_, e1, e2.tp, e3⟩
theorem Ds.scan (h : Ds w b G o) (lo hi lim : Int) : Calls Try.prog 74 #[b, .int .u64 lo, .int .u64 hi, .int .i64 lim] w fun e w' => ∃ v, e = .returned (.tuple #[v, .bool (scB o lo hi lim)]) ∧ Hid (Td w' v (fun i => w.heap.size ≤ i) (scA o lo hi lim)) ∧ Kp Nu w w' := by
  cases o with
  | none =>
    obtain rfl : b = .pointer none := h
    refine (scan_nil74 w lo hi lim).mono ?_
    rintro e w' ⟨rfl, hw⟩
    obtain rfl := hw
    exact ⟨_, rfl, td_nil, Kp.refl _ _⟩
  | some x =>
    obtain ⟨rb, v, L, rfl, hs, _⟩ := h
    refine (rscan74 hs lo hi lim _ rfl).mono ?_
    rintro e w' ⟨ua, uc, e1, e2⟩
    obtain ⟨⟨L', _, hc⟩, k⟩ := e2.out
    exact ⟨_, e1, hc.td _ (Nat.min_le_left _ _), k⟩
def cutE (o : Om) (lo hi : Int) : Int := match o with
  | none => 1
  | some _ => if lo ≤ hi then 0 else 74
theorem cutM_no {lo hi : Int} (h : ¬ lo ≤ hi) (M : List KV) : cutM lo hi M = M := List.filter_eq_self.2 (fun m _ => by unfold inR; simp; omega)
theorem rg_no {lo hi : Int} (h : ¬ lo ≤ hi) (M : List KV) : rg lo hi M = [] := List.filter_eq_nil_iff.2 (fun m _ => by unfold inR; simp; omega)
theorem Ps.cut (h : Ps w a G o) (lo hi : Int) : Calls Try.prog 63 #[a, .int .u64 lo, .int .u64 hi] w fun e w' => ∃ v, e = .returned (.tuple #[v, .int .i64 (cutE o lo hi)]) ∧ Hid (Tp w' v (fun i => w.heap.size ≤ i) (rg lo hi (oM o)) ∧ Ps w' a G (oCut o lo hi) ∧ Kg G w w') := by
  cases o with
  | none =>
    obtain rfl : a = .pointer none := h
    refine (ncut63 w lo hi).mono ?_
    rintro e w' ⟨rfl, hw⟩
    obtain rfl := hw
    exact ⟨_, rfl, tp_nil, rfl, Kg.nu (Kp.refl _ _)⟩
  | some x =>
    obtain ⟨sb, mb, t, rfl, hs, g1, g2, g3⟩ := h
    obtain ⟨ad, h1, h2⟩ := hs.m.ex
    by_cases hle : lo ≤ hi
    · refine (cut_okv hs lo hi hle).mono ?_
      rintro e w' ⟨gk, L, K, rfl, e2, e3, ⟨t', e4, e5⟩, k⟩
      refine ⟨_, by unfold cutE; simp only [if_pos hle], e3.tp, ⟨sb, mb, t', rfl, e4, g1, g2, fun p hp => g3 p (e5 p hp)⟩, Kg.of k (fun i hi e => ?_)⟩
      rcases e with rfl | rfl
      · exact ⟨g1, fun c m e => by rw [hs.box] at e; cases e⟩
      · exact ⟨g2, fun c m e => by rw [h1] at e; cases e⟩
    · refine (cut_no hs lo hi (by omega)).mono ?_
      rintro e w' ⟨rfl, hw⟩
      subst hw
      refine ⟨_, by unfold cutE; simp only [if_neg hle]; rfl, ?_, ⟨sb, mb, t, rfl, ?_, g1, g2, g3⟩, Kg.nu (Kp.refl _ _)⟩
      · show Tp _ _ _ (rg lo hi x.2)
        rw [rg_no hle]; exact tp_nil
      · show Sh _ _ _ _ _ (cutM lo hi x.2)
        rw [cutM_no hle]; exact hs
theorem Ds.cut (h : Ds w b G o) (lo hi : Int) : Calls Try.prog 186 #[b, .int .u64 lo, .int .u64 hi] w fun e w' => ∃ v, e = .returned (.tuple #[v, .int .i64 (cutE o lo hi)]) ∧ Hid (Td w' v (fun i => w.heap.size ≤ i) (rg lo hi (oM o)) ∧ Ds w' b (Gn G w) (oCut o lo hi) ∧ Kg G w w') := by
  cases o with
  | none =>
    obtain rfl : b = .pointer none := h
    refine (cut_nil186 w lo hi).mono ?_
    rintro e w' ⟨rfl, hw⟩
    obtain rfl := hw
    exact ⟨_, rfl, td_nil, rfl, Kg.nu (Kp.refl _ _)⟩
  | some x =>
    obtain ⟨rb, v, L, rfl, hs, g1, g2, g3⟩ := h
    by_cases hle : lo ≤ hi
    · refine (cut186v hs lo hi hle).mono ?_
      rintro e w' ⟨ua, uc, rfl, ⟨L1, hc⟩, ⟨v', L', e4, e5, e6⟩, k⟩
      refine ⟨_, by unfold cutE; simp only [if_pos hle]; rfl, ?_, ⟨rb, v', L', rfl, e4, .inl g1, fun g hg => .inr (e6 g hg), fun p hp g hg => .inl (g3 p (e5 p hp) g hg)⟩, Kg.of k (fun i hi e => ?_)⟩
      · have := hc.td (rg lo hi x.2).length (Nat.le_refl _)
        rw [List.take_length] at this
        exact this
      · have e : i = rb := e
        rw [e]
        exact ⟨g1, fun c m e => by rw [hs.box] at e; cases e⟩
    · refine (cut_no186 w rb lo hi (by omega)).mono ?_
      rintro e w' ⟨rfl, hw⟩
      subst hw
      refine ⟨_, by unfold cutE; simp only [if_neg hle]; rfl, ?_, ⟨rb, v, L, rfl, ?_, .inl g1, fun g hg => .inl (g2 g hg), fun p hp g hg => .inl (g3 p hp g hg)⟩, Kg.nu (Kp.refl _ _)⟩
      · show Td _ _ _ (rg lo hi x.2)
        rw [rg_no hle]; exact td_nil
      · show Rs _ _ _ _ _ (cutM lo hi x.2)
        rw [cutM_no hle]; exact hs
end
end Go.Proofs.Ytchealdgncgjoaa.StU
namespace Go.Proofs.Ytchealdgncgjoaa.StU
open Go.RowKit Go.Proofs.Ytchealdgncgjoaa.St Go.Shelf
set_option linter.unusedVariables false
set_option linter.unusedSimpArgs false
theorem kv_len {S S' : List Pg} (h : S.map kv = S'.map kv) : S.length = S'.length := by have := congrArg List.length h; simpa using this
theorem kv_get {S S' : List Pg} (h : S.map kv = S'.map kv) {i : Nat} {a : Pg} (ha : S[i]? = some a) : ∃ b, S'[i]? = some b ∧ a.k = b.k ∧ a.ys = b.ys := by
  have hi : i < S'.length := by rw [← kv_len h]; exact (List.getElem?_eq_some_iff.1 ha).1
  exact ⟨_, List.getElem?_eq_getElem hi, kv_at h ha (List.getElem?_eq_getElem hi)⟩
theorem kv_mem {S S' : List Pg} (h : S.map kv = S'.map kv) {a : Pg} (ha : a ∈ S) : ∃ b ∈ S', a.k = b.k ∧ a.ys = b.ys := by
  obtain ⟨i, hi⟩ := List.mem_iff_getElem?.1 ha
  obtain ⟨b, hb, e⟩ := kv_get h hi
  exact ⟨b, List.mem_of_getElem? hb, e⟩
theorem risp_kv {S S' : List Pg} (h : S.map kv = S'.map kv) (hr : RisP S) : RisP S' := fun i a b ha hb => by
  obtain ⟨a', ha', e1, _⟩ := kv_get h.symm ha
  obtain ⟨b', hb', e2, _⟩ := kv_get h.symm hb
  have := hr i a' b' ha' hb'
  omega
theorem all_kv {S S' : List Pg} (h : S.map kv = S'.map kv) {P : Int → List Int → Prop} (hp : ∀ s ∈ S, P s.k s.ys) : ∀ s ∈ S', P s.k s.ys := fun s hs => by
  obtain ⟨b, hb, e1, e2⟩ := kv_mem h.symm hs
  rw [e1, e2]; exact hp b hb
theorem ex_kv {S S' : List Pg} (h : S.map kv = S'.map kv) {P : Int → List Int → Prop} (hp : ∃ s ∈ S, P s.k s.ys) : ∃ s ∈ S', P s.k s.ys := by
  obtain ⟨s, hs, q⟩ := hp
  obtain ⟨b, hb, e1, e2⟩ := kv_mem h hs
  exact ⟨b, hb, by rw [← e1, ← e2]; exact q⟩
theorem barr_kv {S S' : List Pg} {M : List KV} {most c : Int} (h : S.map kv = S'.map kv) (hb : BarR S M most c) : BarR S' M most c := by
  have hl := kv_len h
  rcases hb with ⟨h1, e⟩ | ⟨h1, h2, e⟩ | ⟨h1, h2, h3, e⟩ | ⟨h1, h2, h3, h4, e⟩ | ⟨h1, h2, h3, h4, e⟩
  · exact .inl ⟨fun hr => h1 (risp_kv h.symm hr), e⟩
  · exact .inr (.inl ⟨risp_kv h h1, ex_kv (P := fun _ ys => 64 < ys.length) h h2, e⟩)
  · exact .inr (.inr (.inl ⟨risp_kv h h1, all_kv (P := fun _ ys => ys.length ≤ 64) h h2, ex_kv (P := fun k _ => hs k M = true) h h3, e⟩))
  · exact .inr (.inr (.inr (.inl ⟨risp_kv h h1, all_kv (P := fun _ ys => ys.length ≤ 64) h h2, all_kv (P := fun k _ => hs k M = false) h h3, by rw [← hl]; exact h4, e⟩)))
  · exact .inr (.inr (.inr (.inr ⟨risp_kv h h1, all_kv (P := fun _ ys => ys.length ≤ 64) h h2, all_kv (P := fun k _ => hs k M = false) h h3, by rw [← hl]; exact h4, e⟩)))
theorem barr_one {S : List Pg} {M : List KV} {most c c' : Int} (h : BarR S M most c) (h' : BarR S M most c') : c = c' := by
  have nlong : (∀ s ∈ S, s.ys.length ≤ 64) → (∃ s ∈ S, 64 < s.ys.length) → False := fun h1 ⟨s, hs, h2⟩ => by have := h1 s hs; omega
  have nthere : (∀ s ∈ S, hs s.k M = false) → (∃ s ∈ S, hs s.k M = true) → False := fun h1 ⟨s, hs, h2⟩ => by rw [h1 s hs] at h2; cases h2
  rcases h with ⟨h1, e⟩ | ⟨h1, h2, e⟩ | ⟨h1, h2, h3, e⟩ | ⟨h1, h2, h3, h4, e⟩ | ⟨h1, h2, h3, h4, e⟩ <;>
  rcases h' with ⟨g1, e'⟩ | ⟨g1, g2, e'⟩ | ⟨g1, g2, g3, e'⟩ | ⟨g1, g2, g3, g4, e'⟩ | ⟨g1, g2, g3, g4, e'⟩ <;>
  first
    | (rw [e, e']; done)
    | exact absurd g1 h1
    | exact absurd h1 g1
    | exact (nlong g2 h2).elim
    | exact (nlong h2 g2).elim
    | exact (nthere g3 h3).elim
    | exact (nthere h3 g3).elim
    | (exfalso; omega)
theorem layM_kv : ∀ {S S' : List Pg} (h : S.map kv = S'.map kv) (M : List KV), layM S M = layM S' M
  | [], [], _, M => rfl
  | [], b :: S', h, M => by simp at h
  | a :: S, [], h, M => by simp at h
  | a :: S, b :: S', h, M => by
    simp only [List.map_cons, List.cons.injEq] at h
    have h1 : a.k = b.k := congrArg Prod.fst h.1
    have h2 : a.ys = b.ys := congrArg Prod.snd h.1
    show layM S (putM a.k a.ys M) = layM S' (putM b.k b.ys M)
    rw [h1, h2]
    exact layM_kv h.2 _
def layC (o : Om) (S : List Pg) (c : Int) : Prop := match o with
  | none => c = 1
  | some x => BarR S x.2 x.1 c
def oLay (o : Om) (S : List Pg) (c : Int) : Om := o.map (fun x => (x.1, if c = 0 then layM S x.2 else x.2))
theorem lay_one {o : Om} {S S' : List Pg} {c c' : Int} (h : S.map kv = S'.map kv) (h1 : layC o S c) (h2 : layC o S' c') : c = c' ∧ oLay o S c = oLay o S' c' := by
  cases o with
  | none => cases h1; cases h2; exact ⟨rfl, rfl⟩
  | some x =>
    have e : c = c' := barr_one (barr_kv h h1) h2
    subst e
    exact ⟨rfl, by unfold oLay; rw [Option.map_some, Option.map_some, layM_kv h]⟩
section
variable {w w' : World} {a b : Value} {G G' T : Nat → Prop} {o : Om}
theorem Ps.lay (h : Ps w a G o) (v : Value) (S : List Pg) (hS : Wp w v S) (hsl : S.length ≤ 4398046511104) : Calls Try.prog 64 #[a, v] w fun e w' => ∃ c, e = .returned (.int .i64 c) ∧ layC o S c ∧ Hid (Ps w' a (Gn G w) (oLay o S c) ∧ Kg G w w') := by
  cases o with
  | none =>
    obtain rfl : a = .pointer none := h
    refine (nlay64 w v).mono ?_
    rintro e w' ⟨rfl, hw⟩
    obtain rfl := hw
    exact ⟨1, rfl, rfl, rfl, Kg.nu (Kp.refl _ _)⟩
  | some x =>
    obtain ⟨sb, mb, t, rfl, hs, g1, g2, g3⟩ := h
    obtain ⟨ad, h1, h2⟩ := hs.m.ex
    refine (lay_anyv hs v S hS hsl).mono ?_
    rintro e w' ⟨c, rfl, e1, ⟨t', f1, f2⟩, f3⟩
    refine ⟨c, rfl, e1, ⟨sb, mb, t', rfl, f1, .inl g1, .inl g2, fun p hp g hg => ?_⟩, Kg.of f3 (fun i hi e => ?_)⟩
    · rcases f2 p hp with h3 | h3
      · exact .inl (g3 p h3 g hg)
      · exact .inr (h3 g hg)
    · rcases e with rfl | rfl
      · exact ⟨g1, fun c m e => by rw [hs.box] at e; cases e⟩
      · exact ⟨g2, fun c m e => by rw [h1] at e; cases e⟩
theorem Ds.lay (h : Ds w b G o) (v : Value) (S : List Pg) (hS : Wp w v S) (hsl : S.length ≤ 4398046511104) : Calls Try.prog 187 #[b, v] w fun e w' => ∃ c, e = .returned (.int .i64 c) ∧ layC o S c ∧ Hid (Ds w' b (Gn G w) (oLay o S c) ∧ Kg G w w') := by
  cases o with
  | none =>
    obtain rfl : b = .pointer none := h
    refine (lay_nil187 w v).mono ?_
    rintro e w' ⟨rfl, hw⟩
    obtain rfl := hw
    exact ⟨1, rfl, rfl, rfl, Kg.nu (Kp.refl _ _)⟩
  | some x =>
    obtain ⟨rb, u, L, rfl, hs, g1, g2, g3⟩ := h
    refine (lay187 hs v S hS hsl).mono ?_
    rintro e w' ⟨c, rfl, e1, H⟩
    obtain ⟨⟨v', L', f1, f2, f3⟩, f4⟩ := H.out
    refine ⟨c, rfl, e1, ⟨rb, v', L', rfl, f1, .inl g1, fun g hg => ?_, fun p hp g hg => ?_⟩, Kg.of f4 (fun i hi e => ?_)⟩
    · rcases f3 g hg with h3 | h3
      · exact .inl (g2 g h3)
      · exact .inr h3
    · rcases f2 p hp with h3 | h3
      · exact .inl (g3 p h3 g hg)
      · exact .inr (h3 g hg)
    · have e : i = rb := e
      rw [e]
      exact ⟨g1, fun c m e => by rw [hs.box] at e; cases e⟩
end
/-- whose a block is: those of before as before, new ones n's -/
def ext (w : World) (col : Nat → Nat) (n : Nat) (i : Nat) : Nat := if i < w.heap.size then col i else n
/-- the blocks of one owner -/
def Co (col : Nat → Nat) (d : Nat) (i : Nat) : Prop := col i = d
/-- what lies in blocks of its own -/
structure Own (X : World → (Nat → Prop) → Prop) : Prop where
  keep : ∀ {w w' : World} {G T : Nat → Prop}, X w G → Kg T w w' → (∀ i, i < w.heap.size → T i → ¬ G i) → X w' G
  mono : ∀ {w : World} {G G' : Nat → Prop}, X w G → (∀ i, i < w.heap.size → G i → G' i) → X w G'
section
variable {X : World → (Nat → Prop) → Prop} {w w' : World} {col : Nat → Nat} {c d n : Nat}
theorem co_ext {i : Nat} (hi : i < w.heap.size) : Co (ext w col n) d i ↔ Co col d i := by unfold Co ext; rw [if_pos hi]
theorem Own.step (O : Own X) (h : X w (Co col d)) (k : Kg (Co col c) w w') (hcd : c ≠ d) (n : Nat) : X w' (Co (ext w col n) d) :=
  O.keep (O.mono h (fun i hi hG => (co_ext hi).2 hG)) k (fun i hi hT hG => by have := (co_ext hi).1 hG; unfold Co at this hT; omega)
theorem Own.nu (O : Own X) (h : X w (Co col d)) (k : Kp Nu w w') (n : Nat) : X w' (Co (ext w col n) d) :=
  O.keep (O.mono h (fun i hi hG => (co_ext hi).2 hG)) (T := fun _ => False) (Kg.nu k) (fun i hi hT => hT.elim)
theorem Own.new (O : Own X) {w0 : World} (h : X w (fun i => w0.heap.size ≤ i)) (n : Nat) : X w (Co (ext w0 col n) n) :=
  O.mono h (fun i hi hG => by unfold Co ext; rw [if_neg (by omega)])
theorem Own.gn (O : Own X) {w0 : World} (h : X w (Gn (Co col c) w0)) : X w (Co (ext w0 col c) c) :=
  O.mono h (fun i hi hG => by
    unfold Co ext
    split
    · rename_i h1
      rcases hG with hG | hG
      · exact hG
      · omega
    · rfl)
theorem Own.inl (O : Own X) {w0 : World} (h : X w (Co col c)) : X w (Co (ext w0 col c) c) :=
  O.mono h (fun i hi hG => by
    unfold Co ext
    split
    · exact hG
    · rfl)
/-- no change of what was there when the walk began -/
def Bz (W0 w : World) (col : Nat → Nat) : Prop := Kp Nu W0 w ∧ ∀ i, i < W0.heap.size → col i = 0
theorem Bz.step {W0 : World} (h : Bz W0 w col) (k : Kg (Co col c) w w') (hc : c ≠ 0) (n : Nat) : Bz W0 w' (ext w col n) :=
  ⟨h.1.trans k (fun i hi hT => by have h1 : col i = c := hT.1; rw [h.2 i hi] at h1; exact (hc h1.symm).elim), fun i hi => by unfold ext; rw [if_pos (Nat.lt_of_lt_of_le hi h.1.size)]; exact h.2 i hi⟩
theorem Bz.nu {W0 : World} (h : Bz W0 w col) (k : Kp Nu w w') (n : Nat) : Bz W0 w' (ext w col n) :=
  ⟨h.1.andNu k, fun i hi => by unfold ext; rw [if_pos (Nat.lt_of_lt_of_le hi h.1.size)]; exact h.2 i hi⟩
end
theorem Own.ps (a : Value) (o : Om) : Own (fun w G => Ps w a G o) := ⟨fun h k hd => h.keep k hd, fun h hg => h.mono hg⟩
theorem Own.ds (b : Value) (o : Om) : Own (fun w G => Ds w b G o) := ⟨fun h k hd => h.keep k hd, fun h hg => h.mono hg⟩
theorem Own.tp (a : Value) (A : List KV) : Own (fun w G => Tp w a G A) := ⟨fun h k hd => h.keep k hd, fun h hg => h.mono hg⟩
theorem Own.td (a : Value) (A : List KV) : Own (fun w G => Td w a G A) := ⟨fun h k hd => h.keep k hd, fun h hg => h.mono hg⟩
/-- a row of bytes -/
def Ro (v : Sv) (ys : List Int) (w : World) (G : Nat → Prop) : Prop := v.n = ys.length ∧ w.ownsRow 0 5 1 (sl v) v.n (cs ys) ∧ ∀ g, (sl v).ownBlock = some g → G g
/-- a row of bytes with room -/
def Rom (v : Sv) (ys : List Int) (w : World) (G : Nat → Prop) : Prop := Rm w 0 v ys ∧ ∀ g, (sl v).ownBlock = some g → G g
theorem own_keepR {w w' : World} {B e size n : Nat} {v : Value} {xs : List Value} {G T : Nat → Prop} (h : w.ownsRow B e size v n xs) (k : Kg T w w') (hd : ∀ i, i < w.heap.size → T i → ¬ G i) (hG : ∀ g, v.ownBlock = some g → G g) : w'.ownsRow B e size v n xs :=
  own_keep h (fun g hg => k.block g (own_lt h hg) (fun q => hd g (own_lt h hg) q.1 (hG g hg)))
theorem Own.ro (v : Sv) (ys : List Int) : Own (Ro v ys) := ⟨fun h k hd => ⟨h.1, own_keepR h.2.1 k hd h.2.2, h.2.2⟩, fun h hg => ⟨h.1, h.2.1, fun g e => hg g (own_lt h.2.1 e) (h.2.2 g e)⟩⟩
theorem own_n {v : Sv} {m : Nat} {g : Nat} : (Value.slice v.a m v.c).ownBlock = some g ↔ (sl v).ownBlock = some g := by
  obtain ⟨a, n', c⟩ := v
  cases a <;> simp [sl, Value.ownBlock]
theorem Own.rom (v : Sv) (ys : List Int) : Own (Rom v ys) := ⟨fun h k hd => ⟨⟨h.1.1, own_keepR h.1.2 k hd (fun g e => h.2 g (own_n.1 e))⟩, h.2⟩, fun h hg => ⟨h.1, fun g e => hg g (own_lt h.1.2 (own_n.2 e)) (h.2 g e)⟩⟩
theorem Ro.rd {v : Sv} {ys : List Int} {w : World} {G : Nat → Prop} (h : Ro v ys w G) : Rd w (sl v) ys := by
  have := h.2.1; rw [h.1] at this
  obtain ⟨va, vn, vc⟩ := v
  obtain rfl : vn = ys.length := h.1
  exact Rd.of_own this
theorem Rom.rd {v : Sv} {ys : List Int} {w : World} {G : Nat → Prop} (h : Rom v ys w G) : Rd w (sl v) ys := h.1.rd
theorem Ro.of {v : Sv} {ys : List Int} {w : World} {B : Nat} (h : w.ownsRow B 5 1 (.slice v.a v.n v.c) ys.length (cs ys)) : Ro v ys w (fun i => B ≤ i) := by
  have hn : v.n = ys.length := by
    obtain ⟨ad, cap, e⟩ := own_slice h
    exact (Value.slice.inj e).2.1
  refine ⟨hn, own_base (by rw [hn]; exact h) (Nat.zero_le _), fun g hg => ?_⟩
  rcases h.2 with ⟨e, h0⟩ | ⟨g', cap, cur, e, hb, _⟩
  · have e2 : sl v = .slice none 0 0 := e
    rw [e2] at hg; cases hg
  · have e2 : sl v = .slice (some ⟨g', 0, none⟩) ys.length cap := e
    rw [e2] at hg
    simp [Value.ownBlock] at hg
    subst hg; exact hb
theorem Rom.of {v : Sv} {ys : List Int} {w : World} {B : Nat} (h : Rm w B v ys) : Rom v ys w (fun i => B ≤ i) := by
  refine ⟨⟨h.1, own_base h.2 (Nat.zero_le _)⟩, fun g hg => ?_⟩
  have hg := (own_n (m := ys.length + 16)).2 hg
  rcases h.2.2 with ⟨e, h0⟩ | ⟨g', cap, cur, e, hb, _⟩
  · rw [e] at hg; cases hg
  · rw [e] at hg
    simp [Value.ownBlock] at hg
    subst hg; exact hb
end Go.Proofs.Ytchealdgncgjoaa.StU
