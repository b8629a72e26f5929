import Derived.Test.YthajboipnjjgfaaPlC
import Derived.Maps.Ext
namespace Go.Proofs.Ythajboipnjjgfaa.Ly
open Go.RowKit Go.Maps
set_option linter.unusedVariables false

/-- every entry of the map of links: a link, and nothing -/
theorem map_entries {w : World} {b n : Nat} {D : DataW Unit} (h : w.ownsMap Try.prog 86 unitElem b n D) : ∃ es, D = .map es ∧ ∀ p ∈ es, p.2 = .agg [] ∧ ∃ f t : Int, p.1 = lk f t ∧ 0 ≤ f ∧ f < 256 ∧ 0 ≤ t ∧ t < 256 := by
  obtain ⟨es, clock, hb, F, hn, rfl⟩ := h
  refine ⟨_, rfl, fun p hp => ?_⟩
  rw [mem_sorted, List.mem_map] at hp
  obtain ⟨x, hx, rfl⟩ := hp
  obtain ⟨y, hy⟩ := F.reads x hx
  rw [WideElems.rg_of hy]
  obtain ⟨z, hz, e⟩ := WideElems.rd_val hy
  obtain ⟨_, e2⟩ := unitElem_inv hz
  obtain ⟨f, t, _, e3, r⟩ := lk_inv (WideElems.rd_key hy)
  exact ⟨by rw [e, e2], f, t, e3, r⟩
theorem has_link {w : World} {b n : Nat} {D : DataW Unit} (h : w.ownsMap Try.prog 86 unitElem b n D) {k : Lit} (hk : Maps.has D k = true) : (∀ z, D.atKey k z = .agg []) ∧ ∃ f t : Int, k = lk f t ∧ 0 ≤ f ∧ f < 256 ∧ 0 ≤ t ∧ t < 256 := by
  obtain ⟨es, rfl, hes⟩ := map_entries h
  rw [has_eq, List.any_eq_true] at hk
  obtain ⟨p, hp, hs⟩ := hk
  have e : p.1 = k := by
    rcases Classical.em (p.1 = k) with e | e
    · exact e
    · rw [sameKey_ne e] at hs; cases hs
  refine ⟨fun z => ?_, ?_⟩
  · simp only [DataW.atKey]
    cases hf : es.find? (fun p => p.1.sameKey k) with
    | none =>
      rw [List.find?_eq_none] at hf
      exact absurd hs (hf p hp)
    | some q => exact (hes q (List.mem_of_find?_eq_some hf)).1
  · obtain ⟨f, t, e2, r⟩ := (hes p hp).2
    exact ⟨f, t, by rw [← e, e2], r⟩
theorem stF_at {f f' : Int} (h : 0 ≤ f) : stF f f' = decide (f = f') := by
  unfold stF
  have : (f == -1) = false := by simp; omega
  rw [this, Bool.false_or]
  rfl
theorem heal_del {w w' : World} {b n n' : Nat} {D D' : DataW Unit} (h : w.ownsMap Try.prog 86 unitElem b n D) (h' : w'.ownsMap Try.prog 86 unitElem b n' D') {f t : Int} (f0 : 0 ≤ f) (f1 : f < 256) (t0 : 0 ≤ t) (t1 : t < 256) (hd : Hd f t D D') : D' = D.del (lk f t) := by
  have hhas : ∀ k, Maps.has D' k = Maps.has (D.del (lk f t)) k := by
    have key : ∀ f' t' : Int, 0 ≤ f' → f' < 256 → 0 ≤ t' → t' < 256 → Maps.has D' (lk f' t') = Maps.has (D.del (lk f t)) (lk f' t') := by
      intro f' t' g0 g1 u0 u1
      have := hd f' t' g0 g1 u0 u1
      simp only [bar] at this
      rw [this, stF_at f0, stF_at t0]
      by_cases e : lk f' t' = lk f t
      · obtain ⟨rfl, rfl⟩ := lk_inj g0 g1 u0 u1 f0 f1 t0 t1 e
        simp [has_del_same]
      · rw [has_del_other e]
        have : ¬ (f = f' ∧ t = t') := by rintro ⟨rfl, rfl⟩; exact e rfl
        by_cases e1 : f = f' <;> by_cases e2 : t = t' <;> simp_all
    intro k
    cases h1 : Maps.has D' k
    · cases h2 : Maps.has (D.del (lk f t)) k
      · rfl
      · have h3 : Maps.has D k = true := by
          obtain ⟨es, rfl, _⟩ := map_entries h
          rw [DataW.del, has_eq, List.any_eq_true] at h2
          obtain ⟨p, hp, hs⟩ := h2
          rw [has_eq, List.any_eq_true]
          exact ⟨p, (List.mem_filter.1 hp).1, hs⟩
        obtain ⟨_, f', t', rfl, g0, g1, u0, u1⟩ := has_link h h3
        rw [key f' t' g0 g1 u0 u1, h2] at h1
        cases h1
    · obtain ⟨_, f', t', rfl, g0, g1, u0, u1⟩ := has_link h' h1
      rw [← key f' t' g0 g1 u0 u1, h1]
  refine Maps.ext (h'.canon keyed) ?_ hhas ?_
  · obtain ⟨es, rfl, e2, e3⟩ := h.canon keyed
    exact ⟨_, rfl, e2.filter _, fun p hp => e3 p ((List.mem_filter.1 hp).1)⟩
  · intro k z hk
    rw [(has_link h' hk).1 z]
    have h2 : Maps.has (D.del (lk f t)) k = true := by rw [← hhas]; exact hk
    obtain ⟨es, rfl, hes⟩ := map_entries h
    rw [DataW.del, has_eq, List.any_eq_true] at h2
    obtain ⟨p, hp, hs⟩ := h2
    simp only [DataW.del, DataW.atKey]
    cases hf : (es.filter fun p => !p.1.sameKey (lk f t)).find? (fun p => p.1.sameKey k) with
    | none =>
      rw [List.find?_eq_none] at hf
      exact absurd hs (hf p hp)
    | some q => exact (hes q ((List.mem_filter.1 (List.mem_of_find?_eq_some hf)).1)).1.symm

section
variable {B b bm nb : Nat} {w w' : World} {room : Int} {D : DataW Unit} {v : Value} {c : Ct} {L : List Gm}
/-- one link is opened -/
theorem heal_one (h : Nt B w b bm nb room D v c L) (f t : Int) (f0 : 0 ≤ f) (f1 : f < 256) (t0 : 0 ≤ t) (t1 : t < 256) (hnb : (nb : Int) ≤ 4611686018427387000) :
    Calls Try.prog 33 #[.pointer (some ⟨b, 0, none⟩), .int .i64 f, .int .i64 t] w fun e w' => e = .returned (.int .i64 (if bar D f t then 1 else 0)) ∧ ∃ D', bar D' f t = false ∧ Nt B w' b bm nb room D' v c L ∧ Fr b bm v w w' v := by
  refine (heal_some h f t (by omega) hnb).mono ?_
  rintro e w2 ⟨D', rfl, hd, hN, hF⟩
  have e := heal_del h.map hN.map f0 f1 t0 t1 hd
  have hs := size_del (h.map.tidy keyed) (k := lk f t)
  rw [← e] at hs
  refine ⟨?_, D', ?_, hN, hF⟩
  · congr 1
    unfold bar
    cases hh : Maps.has D (lk f t)
    · rw [hh] at hs; simp at hs; simp; omega
    · rw [hh] at hs; simp at hs; simp; omega
  · rw [e]; exact has_del_same
theorem bar_put {f t : Int} (h : w.ownsMap Try.prog 86 unitElem bm nb D) (f0 : 0 ≤ f) (f1 : f < 256) (t0 : 0 ≤ t) (t1 : t < 256) : bar (D.put (lk f t) (.agg [])) f t = true := has_put_same h.isMap (keyed.key (key_lk f0 f1 t0 t1)) _
end

/-- is a datagram on the link? -/
def lnk (f t : Int) (g : Gm) : Bool := g.f == f && g.t == t
/-- what is left of the list when those on the link, from the place k on, are gone -/
def lef (f t : Int) (L : List Gm) (k : Nat) : List Gm := L.take k ++ (L.drop k).filter (fun g => !lnk f t g)
def cntL (f t : Int) (L : List Gm) (k : Nat) : Nat := ((L.drop k).filter (lnk f t)).length
theorem lef_all (f t : Int) (L : List Gm) : lef f t L L.length = L := by simp [lef]
theorem cntL_all (f t : Int) (L : List Gm) : cntL f t L L.length = 0 := by simp [cntL]
theorem lef_skip {f t : Int} {L : List Gm} {k : Nat} {g : Gm} (hg : L[k]? = some g) (h : lnk f t g = false) : lef f t L k = lef f t L (k + 1) ∧ cntL f t L k = cntL f t L (k + 1) := by
  have hk : k < L.length := (List.getElem?_eq_some_iff.1 hg).1
  have e : L[k] = g := by rw [List.getElem?_eq_getElem hk] at hg; simpa using hg
  unfold lef cntL
  rw [List.drop_eq_getElem_cons hk, take_step hk, e]
  simp [h]
theorem lef_take {f t : Int} {L : List Gm} {k : Nat} {g : Gm} (hg : L[k]? = some g) (h : lnk f t g = true) : cut (lef f t L (k + 1)) k = lef f t L k ∧ cntL f t L k = cntL f t L (k + 1) + 1 ∧ (lef f t L (k + 1))[k]? = some g := by
  have hk : k < L.length := (List.getElem?_eq_some_iff.1 hg).1
  have e : L[k] = g := by rw [List.getElem?_eq_getElem hk] at hg; simpa using hg
  have hl : (L.take k).length = k := by rw [List.length_take]; omega
  have e1 : lef f t L (k + 1) = L.take k ++ g :: (L.drop (k + 1)).filter (fun g => !lnk f t g) := by
    unfold lef
    rw [take_step hk, e]
    simp only [List.append_assoc, List.singleton_append]
  refine ⟨?_, ?_, ?_⟩
  · rw [e1]
    unfold cut lef
    have a1 : (L.take k ++ g :: (L.drop (k + 1)).filter (fun g => !lnk f t g)).take k = L.take k := by
      rw [List.take_append_of_le_length (by omega), List.take_of_length_le (by omega)]
    have a2 : (L.take k ++ g :: (L.drop (k + 1)).filter (fun g => !lnk f t g)).drop (k + 1) = (L.drop (k + 1)).filter (fun g => !lnk f t g) := by
      rw [List.drop_append, hl, List.drop_eq_nil_of_le (by omega), show k + 1 - k = 1 by omega]
      rfl
    rw [a1, a2, List.drop_eq_getElem_cons hk, e]
    simp [h]
  · unfold cntL
    rw [List.drop_eq_getElem_cons hk, e]
    simp [h]
  · rw [e1, List.getElem?_append_right (by omega), hl, Nat.sub_self]
    rfl
theorem lef_len (f t : Int) (L : List Gm) (k : Nat) : (lef f t L k).length + cntL f t L k = L.length := by
  unfold lef cntL
  have : ∀ l : List Gm, (l.filter fun g => !lnk f t g).length + (l.filter (lnk f t)).length = l.length := by
    intro l
    induction l with
    | nil => rfl
    | cons g r ih => cases hg : lnk f t g <;> simp [hg] <;> omega
  have := this (L.drop k)
  rw [List.length_append, List.length_take]
  rw [List.length_drop] at this
  omega
end Go.Proofs.Ythajboipnjjgfaa.Ly
