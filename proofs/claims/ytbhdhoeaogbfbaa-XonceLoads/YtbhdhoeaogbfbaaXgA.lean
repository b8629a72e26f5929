import Derived.Test.YtbhdhoeaogbfbaaGnP
import Derived.Test.YtbhdhoeaogbfbaaGnT
import Derived.Test.YtbhdhoeaogbfbaaEnK
namespace Go.Proofs.Ytbhdhoeaogbfbaa.Xo
open Go.RowKit
set_option linter.unusedVariables false
set_option linter.unusedSimpArgs false
/-- a peer's state, as numbers and bytes -/
structure Ab where
  sent : Int
  acked : Int
  mask : Int
  dlv : Int
  q : List (List Int)
  e : List (Int × List Int)
/-- a peer's state in memory: its cells, its payloads, its frames -/
structure Px where
  p : Pr
  es : List Fm
def fse (f : Fm) : Int × List Int := (f.seq, f.ys)
def Px.ab (x : Px) : Ab := ⟨x.p.sent, x.p.acked, x.p.mask, x.p.dlv, x.p.qs.map Prod.snd, x.es.map fse⟩
instance : Inhabited Px := ⟨⟨⟨0, 0, .slice none 0 0, [], 0, 0, .slice none 0 0⟩, []⟩⟩
/-- only blocks of G turn -/
abbrev Kg (G : Nat → Prop) (w w' : World) : Prop := Kp G w w'
/-- a peer's lists in blocks of G -/
structure Pm (w : World) (G : Nat → Prop) (x : Px) : Prop where
  own : w.ownsRow 0 45 1 x.p.q x.p.qs.length (x.p.qs.map Prod.fst)
  pay : ∀ y ∈ x.p.qs, w.ownsRow 0 5 1 y.1 y.2.length (cs y.2) ∧ ∀ g, y.1.ownBlock = some g → G g
  eown : w.ownsRow 0 133 2 x.p.e x.es.length (ff x.es)
  epay : ∀ f ∈ x.es, w.ownsRow 0 5 1 f.v f.ys.length (cs f.ys) ∧ ∀ g, f.v.ownBlock = some g → G g
  gq : ∀ g, x.p.q.ownBlock = some g → G g
  ge : ∀ g, x.p.e.ownBlock = some g → G g
section
variable {w w' : World} {G G' T : Nat → Prop} {x : Px}
theorem own_kT {B e size n : Nat} {v : Value} {xs : List Value} (h : w.ownsRow B e size v n xs) (k : Kp T w w') (hd : ∀ i, i < w.heap.size → T i → ¬ G i) (hG : ∀ g, v.ownBlock = some g → G g) : w'.ownsRow B e size v n xs :=
  own_keep h (fun g hg => k.block g (own_lt h hg) (fun q => hd g (own_lt h hg) q (hG g hg)))
theorem Pm.keep (h : Pm w G x) (k : Kp T w w') (hd : ∀ i, i < w.heap.size → T i → ¬ G i) : Pm w' G x :=
  ⟨own_kT h.own k hd h.gq, fun y hy => ⟨own_kT (h.pay y hy).1 k hd (h.pay y hy).2, (h.pay y hy).2⟩, own_kT h.eown k hd h.ge, fun f hf => ⟨own_kT (h.epay f hf).1 k hd (h.epay f hf).2, (h.epay f hf).2⟩, h.gq, h.ge⟩
theorem Pm.nu (h : Pm w G x) (k : Kp Nu w w') : Pm w' G x := h.keep k (fun _ _ e => e.elim)
theorem Pm.mono (h : Pm w G x) (hg : ∀ i, i < w.heap.size → G i → G' i) : Pm w G' x :=
  ⟨h.own, fun y hy => ⟨(h.pay y hy).1, fun g e => hg g (own_lt (h.pay y hy).1 e) ((h.pay y hy).2 g e)⟩, h.eown, fun f hf => ⟨(h.epay f hf).1, fun g e => hg g (own_lt (h.epay f hf).1 e) ((h.epay f hf).2 g e)⟩, fun g e => hg g (own_lt h.own e) (h.gq g e), fun g e => hg g (own_lt h.eown e) (h.ge g e)⟩
end
theorem rd_own {w : World} {v : Value} {ys : List Int} (h : w.ownsRow 0 5 1 v ys.length (cs ys)) : Rd w v ys := Rd.of_own h
/-- a list of payloads, of whatever length, that can be read -/
theorem Pm.lq {w : World} {G : Nat → Prop} {x : Px} (h : Pm w G x) : Lq w x.p.q x.p.qs := by
  rcases h.own.2 with ⟨e, h0⟩ | ⟨g, cap, cur, e, hb, hg, h1, h2, h3, h4⟩
  · exact .inl ⟨none, 0, e, List.eq_nil_of_length_eq_zero h0⟩
  · refine .inr ⟨g, 0, cap, e, fun i y hy => ?_⟩
    have hl : i < x.p.qs.length := (List.getElem?_eq_some_iff.1 hy).1
    refine ⟨?_, rd_own (h.pay y (List.mem_of_getElem? hy)).1⟩
    have h5 : (x.p.qs.map Prod.fst)[i]? = some y.1 := by rw [List.getElem?_map, hy]; rfl
    rw [← h4, List.getElem?_take] at h5
    split at h5
    · simp [World.cell?, hg]; simpa using h5
    · cases h5
theorem Pm.le {w : World} {G : Nat → Prop} {x : Px} (h : Pm w G x) : Le w x.p.e x.es := by
  rcases h.eown.2 with ⟨e, h0⟩ | ⟨g, cap, cur, e, hb, hg, h1, h2, h3, h4⟩
  · exact .inl ⟨none, 0, e, List.eq_nil_of_length_eq_zero h0⟩
  · refine .inr ⟨g, 0, cap, e, fun i f hf => ?_⟩
    have hl : i < x.es.length := (List.getElem?_eq_some_iff.1 hf).1
    have key : ∀ j u, (ff x.es)[j]? = some u → w.cell? ⟨g, j, none⟩ = some u := fun j u hu => by
      rw [← h4, List.getElem?_take] at hu
      split at hu
      · simp [World.cell?, hg]; simpa using hu
      · cases hu
    refine ⟨?_, ?_, rd_own (h.epay f (List.mem_of_getElem? hf)).1⟩
    · rw [Nat.zero_add]; exact key _ _ (by have := ff_at x.es i f hf 0 (by omega); simpa [Fm.cells] using this)
    · rw [Nat.zero_add]; exact key _ _ (by have := ff_at x.es i f hf 1 (by omega); simpa [Fm.cells] using this)
/-- sizes that memory has room for -/
def Bd (x : Px) : Prop := x.p.qs.length ≤ 5864062014634 ∧ (∀ y ∈ x.p.qs, y.2.length ≤ 140737488351232) ∧ x.es.length ≤ 4398046510976 ∧ (∀ f ∈ x.es, f.ys.length ≤ 140737488351232) ∧ 0 ≤ x.p.sent ∧ x.p.sent ≤ 18446744073709551615 ∧ 0 ≤ x.p.acked ∧ x.p.acked ≤ 18446744073709551615 ∧ 0 ≤ x.p.mask ∧ x.p.mask ≤ 18446744073709551615 ∧ 0 ≤ x.p.dlv ∧ x.p.dlv ≤ 18446744073709551615 ∧ ∀ f ∈ x.es, 0 ≤ f.seq ∧ f.seq ≤ 18446744073709551615
/-- a peer's state that can be read -/
def In1 (w : World) (x : Px) : Prop := Lq w x.p.q x.p.qs ∧ Le w x.p.e x.es
theorem In1.nu {w w' : World} {x : Px} (h : In1 w x) (k : Kp Nu w w') : In1 w' x := ⟨h.1.nu k, h.2.nu k⟩
/-- a list of peers' states that can be read -/
def Wi (w : World) (v : Value) (I : List Px) : Prop := ∃ ad cap, v = .slice ad I.length cap ∧ ∀ (i : Nat) (x : Px), I[i]? = some x → ∃ b off, ad = some ⟨b, off, none⟩ ∧ (∀ j, j < 6 → w.cell? ⟨b, off + i * 6 + j, none⟩ = (x.p.cells)[j]?) ∧ In1 w x
theorem Wi.nu {w w' : World} {v : Value} {I : List Px} (h : Wi w v I) (k : Kp Nu w w') : Wi w' v I := by
  obtain ⟨ad, cap, e, h⟩ := h
  refine ⟨ad, cap, e, fun i x hx => ?_⟩
  obtain ⟨b, off, e1, c, hi⟩ := h i x hx
  refine ⟨b, off, e1, fun j hj => ?_, hi.nu k⟩
  have hc := c j hj
  rw [← hc]
  have hs : ∃ u, w.cell? ⟨b, off + i * 6 + j, none⟩ = some u := by
    rw [hc]; exact ⟨_, List.getElem?_eq_getElem (by simp [Pr.cells]; omega)⟩
  obtain ⟨u, hu⟩ := hs
  rw [hu]
  exact (World.cell?_of_block (k.block _ (World.block_lt_of_cell? w _ hu) (fun h => h))).trans hu
theorem Wi.slice {w : World} {v : Value} {I : List Px} (h : Wi w v I) : ∃ ad cap, v = .slice ad I.length cap := by
  obtain ⟨ad, cap, e, _⟩ := h
  exact ⟨ad, cap, e⟩
/-- a list of peers' states in blocks of G -/
def Tl8 (w : World) (v : Value) (G : Nat → Prop) (xs : List Px) : Prop := w.ownsRow 0 66 6 v xs.length (flat (xs.map Px.p)) ∧ (∀ g, v.ownBlock = some g → G g) ∧ ∀ x ∈ xs, Pm w G x
theorem Tl8.keep {w w' : World} {G T : Nat → Prop} {v : Value} {xs : List Px} (h : Tl8 w v G xs) (k : Kp T w w') (hd : ∀ i, i < w.heap.size → T i → ¬ G i) : Tl8 w' v G xs :=
  ⟨own_kT h.1 k hd h.2.1, h.2.1, fun x hx => (h.2.2 x hx).keep k hd⟩
theorem Tl8.nu {w w' : World} {G : Nat → Prop} {v : Value} {xs : List Px} (h : Tl8 w v G xs) (k : Kp Nu w w') : Tl8 w' v G xs := h.keep k (fun _ _ e => e.elim)
theorem Tl8.wi {w : World} {G : Nat → Prop} {v : Value} {xs : List Px} (h : Tl8 w v G xs) : Wi w v xs := by
  obtain ⟨ad, cap, e⟩ := own_slice h.1
  refine ⟨ad, cap, e, fun i x hx => ?_⟩
  have hl : i < xs.length := (List.getElem?_eq_some_iff.1 hx).1
  rcases h.1.2 with ⟨e1, h0⟩ | ⟨g, cap', cur, e1, hb, hg, h1, h2, h3, h4⟩
  · omega
  · rw [e] at e1
    have e2 := (Value.slice.inj e1).1
    refine ⟨g, 0, e2, fun j hj => ?_, (h.2.2 x (List.mem_of_getElem? hx)).lq, (h.2.2 x (List.mem_of_getElem? hx)).le⟩
    have hp : (xs.map Px.p)[i]? = some x.p := by rw [List.getElem?_map, hx]; rfl
    have hf := flat_at _ i x.p hp j hj
    have hs : ∃ u, (x.p.cells)[j]? = some u := ⟨_, List.getElem?_eq_getElem (by simp [Pr.cells]; omega)⟩
    obtain ⟨u, hu⟩ := hs
    rw [hu] at hf ⊢
    rw [← h4, List.getElem?_take] at hf
    rw [Nat.zero_add]
    split at hf
    · simp [World.cell?, hg]; simpa using hf
    · cases hf
end Go.Proofs.Ytbhdhoeaogbfbaa.Xo
