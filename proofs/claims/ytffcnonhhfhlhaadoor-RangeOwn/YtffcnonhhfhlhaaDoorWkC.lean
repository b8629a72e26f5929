import Derived.Test.YtffcnonhhfhlhaaDoorRfD
import Derived.Test.YtffcnonhhfhlhaaDoorItN
import Derived.Test.YtffcnonhhfhlhaaDoorRfP
namespace Go.Proofs.YtffcnonhhfhlhaaDoor.Rg
open Go.RowKit Go.Shelf Go.Sort
open Go.Proofs.YtffcnonhhfhlhaaDoor.It
set_option linter.unusedVariables false

/-- the cells of all blocks but b are as they were -/
def Fx (b : Nat) (w V : World) : Prop := ∀ k c t m, k ≠ b → w.heap[k]? = some (.cells c t m) → V.heap[k]? = some (.cells c t m)
theorem Fx.refl (b : Nat) (w : World) : Fx b w w := fun _ _ _ _ _ e => e
theorem Fx.trans {b : Nat} {w V X : World} (h : Fx b w V) (k : Fx b V X) : Fx b w X := fun i c t m hi e => k i c t m hi (h i c t m hi e)
theorem Fx.kp {b : Nat} {w V X : World} {T : Nat → Prop} (h : Fx b w V) (k : Kp T V X) (hT : ∀ i, T i → i = b ∨ w.heap.size ≤ i) : Fx b w X := fun i c t m hi e =>
  (k.block i (blk_lt (h i c t m hi e)) (fun e2 => by
    rcases hT i e2 with h | h
    · exact hi h
    · have := blk_lt e; omega)).trans (h i c t m hi e)
theorem Fx.nu {b : Nat} {w V X : World} (h : Fx b w V) (k : Kp Nu V X) : Fx b w X := h.kp k (fun _ e => e.elim)
/-- what is grown and is no cells leaves all cells -/
theorem cells_grown {B : Nat} {X Z : World} {row : Option Nat} (hg : X.grownBy Z row) (hr : ∀ r, row = some r → B ≤ r ∧ ∃ o, X.heap[r]? = some o ∧ o.isCells = false) (k : Nat) (c : Array Value) (t : TypeId) (m : Nat × Nat) (e : X.heap[k]? = some (.cells c t m)) : Z.heap[k]? = some (.cells c t m) :=
  own_cells (β := Unit) B k c t m () X Z row e hg hr
theorem Fx.grown {B b : Nat} {w X Z : World} {row : Option Nat} (h : Fx b w X) (hg : X.grownBy Z row) (hr : ∀ r, row = some r → B ≤ r ∧ ∃ o, X.heap[r]? = some o ∧ o.isCells = false) : Fx b w Z := fun i c t m hi e => cells_grown hg hr i c t m (h i c t m hi e)
theorem Tb.grown {B0 B b : Nat} {X Z : World} {lim : Int} {v : Value} {L : List Sg} {row : Option Nat} (h : Tb B X b lim v L) (hg : X.grownBy Z row) (hr : ∀ r, row = some r → B0 ≤ r ∧ ∃ o, X.heap[r]? = some o ∧ o.isCells = false) : Tb B Z b lim v L :=
  ⟨cells_grown hg hr _ _ _ _ h.blk, h.low, own_keep h.own (fun g e => by
    obtain ⟨r, cap, e1, cur, hc⟩ := h.row
    rw [e1] at e
    have e3 : r = g := by simpa [Value.ownBlock] using e
    subst e3
    rw [hc]; exact cells_grown hg hr _ _ _ _ hc), h.tab, h.len, h.lim1⟩
/-- where a round stands -/
structure Wj (Ls : List Nat) (w w6 : World) (b B bn bi : Nat) (lim rd n : Int) (Lc : List Sg) (V : World) : Prop where
  fx : Fx b w6 V
  r : V.heap[bn]? = some (.cells #[.int .i64 rd] 3 (0, 0))
  i : V.heap[bi]? = some (.cells #[.int .i64 n] 3 (0, 0))
  t : ∃ v', Tb B V b lim v' Lc
  bel : Below w.heap.size w V
  d : ∀ D ∈ Ls, V.heap[D]? = some (.deferred (some []))
theorem Wj.own {Ls : List Nat} {w w6 : World} {b B bn bi B0 : Nat} {lim rd : Int} {β : Type} (n : β → Int) (Lc : β → List Sg) (hB : w.heap.size ≤ B0) (hD : ∀ D ∈ Ls, D < B0) : OwnFrom B0 (fun p V => Wj Ls w w6 b B bn bi lim rd (n p) (Lc p) V) := fun p X Z row hs hg hr => by
  obtain ⟨v', ht⟩ := hs.t
  exact ⟨hs.fx.grown hg hr, cells_grown hg hr _ _ _ _ hs.r, cells_grown hg hr _ _ _ _ hs.i, ⟨v', ht.grown hg hr⟩, ownFrom_below (β := Unit) (Nat.le_refl _) hB () X Z row hs.bel hg hr, fun D h => own_block (hD D h) () X Z row (hs.d D h) hg hr⟩
theorem Wj.nu {Ls : List Nat} {w w6 V X : World} {b B bn bi : Nat} {lim rd n : Int} {Lc : List Sg} (h : Wj Ls w w6 b B bn bi lim rd n Lc V) (k : Kp Nu V X) : Wj Ls w w6 b B bn bi lim rd n Lc X := by
  obtain ⟨v', ht⟩ := h.t
  exact ⟨h.fx.nu k, (k.block _ (blk_lt h.r) (fun h => h)).trans h.r, (k.block _ (blk_lt h.i) (fun h => h)).trans h.i, ⟨v', ht.nu k⟩, ((Kp.of_below h.bel).andNu k).toBelow, fun D hD => (k.block _ (Array.getElem?_eq_some_iff.1 (h.d D hD)).1 (fun h => h)).trans (h.d D hD)⟩
/-- the table's own block is none of numbers -/
theorem Tb.ne3 {B b k : Nat} {w : World} {lim : Int} {v : Value} {L : List Sg} {c : Array Value} {t : TypeId} {m : Nat × Nat} (h : Tb B w b lim v L) (hk : w.heap[k]? = some (.cells c t m)) (ht : t ≠ 93) : k ≠ b := fun e => by
  rw [e, h.blk] at hk; cases hk; exact ht rfl
/-- its list's block is none of numbers -/
theorem Tb.ne26 {B b k g : Nat} {w : World} {lim : Int} {v : Value} {L : List Sg} {c : Array Value} {t : TypeId} {m : Nat × Nat} (h : Tb B w b lim v L) (hg : v.ownBlock = some g) (hk : w.heap[k]? = some (.cells c t m)) (ht : t ≠ 26) : g ≠ k := fun e => by
  obtain ⟨r, cap, e1, cur, hc⟩ := h.row
  rw [e1] at hg
  have e3 : r = g := by simpa [Value.ownBlock] using hg
  rw [e3, e, hk] at hc; cases hc; exact ht rfl
/-- one number more -/
theorem Wj.set {Ls : List Nat} {w w6 V : World} {b B bn bi : Nat} {lim rd n : Int} {Lc : List Sg} (h : Wj Ls w w6 b B bn bi lim rd n Lc V) (h6 : w6.heap.size ≤ bi) (hw : w.heap.size ≤ bi) (hne : bn ≠ bi) (n' : Int) : Wj Ls w w6 b B bn bi lim rd n' Lc (V.setCell ⟨bi, 0, none⟩ (.int .i64 n')) ∧ Kp (fun k => k = bi) V (V.setCell ⟨bi, 0, none⟩ (.int .i64 n')) := by
  have k := Kp.setCell V ⟨bi, 0, none⟩ (.int .i64 n')
  obtain ⟨v', ht⟩ := h.t
  have hb := ht.ne3 h.i (by decide)
  refine ⟨⟨h.fx.kp k (fun i e => .inr (by have e : i = bi := e; omega)), (k.block _ (blk_lt h.r) (fun e => hne e)).trans h.r, by rw [set3 h.i]; rfl, ⟨v', ?_⟩, ((Kp.of_below h.bel).andSet ⟨bi, 0, none⟩ _ (.inl hw)).toBelow, fun D hD => (k.block _ (Array.getElem?_eq_some_iff.1 (h.d D hD)).1 (fun e => by have e : D = bi := e; have := h.d D hD; rw [e, h.i] at this; cases this)).trans (h.d D hD)⟩, k⟩
  exact ⟨(k.block _ (blk_lt ht.blk) (fun e => hb (show bi = b from (show b = bi from e).symm))).trans ht.blk, ht.low, own_keep ht.own (fun g e => k.block g (own_lt ht.own e) (fun e2 => ht.ne26 e h.i (by decide) (show g = bi from e2))), ht.tab, ht.len, ht.lim1⟩
/-- the table is assigned -/
theorem Wj.turn {Ls : List Nat} {w w6 V X : World} {b B bn bi : Nat} {lim rd n : Int} {Lc L' : List Sg} {v' : Value} (h : Wj Ls w w6 b B bn bi lim rd n Lc V) (k : Kp (fun k => k = b) V X) (ht' : Tb B X b lim v' L') (hw : w.heap.size ≤ B) : Wj Ls w w6 b B bn bi lim rd n L' X := by
  obtain ⟨v0, ht⟩ := h.t
  have h1 := ht.ne3 h.r (by decide)
  have h2 := ht.ne3 h.i (by decide)
  refine ⟨h.fx.kp k (fun i e => .inl e), (k.block _ (blk_lt h.r) (fun e => h1 e)).trans h.r, (k.block _ (blk_lt h.i) (fun e => h2 e)).trans h.i, ⟨v', ht'⟩, ?_, fun D hD => (k.block _ (Array.getElem?_eq_some_iff.1 (h.d D hD)).1 (fun e => by have e : D = b := e; have := h.d D hD; rw [e, ht.blk] at this; cases this)).trans (h.d D hD)⟩
  exact ((Kp.of_below h.bel).trans k (fun i hi e => by
    have e : i = b := e
    have := ht.low
    omega)).toBelow
/-- what the sequence keeps is kept -/
def Kf (b : Nat) (w6 : World) (K : Nat → TypeId → Prop) : Prop := ∀ k t, K k t → t = 90 ∨ (k ≠ b ∧ ∃ c t' m, w6.heap[k]? = some (.cells c t' m))
theorem Kf.kc {b : Nat} {w6 V X : World} {K : Nat → TypeId → Prop} (hK : Kf b w6 K) (f : Fx b w6 V) (f' : Fx b w6 X) {T : Nat → Prop} (k : Kp T V X) (hT : ∀ i c m, T i → ¬ V.heap[i]? = some (.cells c 90 m)) : Kc K V X := fun i c t m hi e => by
  rcases hK i t hi with h | ⟨h1, c', t', m', h2⟩
  · subst h
    exact (k.block i (blk_lt e) (fun e2 => hT i c m e2 e)).trans e
  · have e1 := f i c' t' m' h1 h2
    rw [e1] at e
    rw [f' i c' t' m' h1 h2]; exact e
end Go.Proofs.YtffcnonhhfhlhaaDoor.Rg
namespace Go.Proofs.YtffcnonhhfhlhaaDoor.Rg
open Go.RowKit Go.Shelf Go.Sort
open Go.Proofs.YtffcnonhhfhlhaaDoor.It
set_option linter.unusedVariables false
/-- what lies between two keys, in any order of them -/
def wiA (lo hi : Int) (L : List Sg) : List Sg := if lo ≤ hi then wiD lo hi L else []
theorem refWithin_all (w : World) (u : Value) (L : List Sg) (lim : Int) (hrs : Rs w u L) (hl : L.length ≤ 8192) (lo hi : Int) :
    Calls Tryd.prog 13 #[.agg #[.int .i64 lim, u], .int .u64 lo, .int .u64 hi] w fun e w' => ∃ u', e = .returned u' ∧ w'.ownsRow w.heap.size 26 3 u' (wiA lo hi L).length (cells (wiA lo hi L)) ∧ Kp Nu w w' := by
  unfold wiA
  by_cases h : lo ≤ hi
  · rw [if_pos h]; exact refWithin_any w u L lim hrs hl lo hi h
  · rw [if_neg h]
    refine (refWithin_none w u L lim hrs hl lo hi (by omega)).mono ?_
    rintro e w' ⟨rfl, hk⟩
    exact ⟨_, rfl, World.ownsRow_nil _ _ _ _, hk⟩
/-- a sequence of segments that stands whatever becomes of the table's own block -/
def Sq (b : Nat) (w6 : World) (gf : Nat) (lb : Array Value) (W : List Sg) : Prop :=
  (∀ args w, (callFunc gf args).run Tryd.prog w = .ok (.enter gf args) w) ∧ ∃ K N, Kf b w6 K ∧ ∀ V, Fx b w6 V → SeqQ Tryd.prog gf lb (fun x : Sg => #[enc x]) K (fun xs => xs = W) (fun pre => pre <+: W) N V
theorem Sq.nu {b gf : Nat} {w6 w7 : World} {lb : Array Value} {W : List Sg} (h : Sq b w6 gf lb W) (k : Kp Nu w6 w7) : Sq b w7 gf lb W := by
  obtain ⟨eg, K, N, hK, hS⟩ := h
  refine ⟨eg, K, N, fun i t hi => ?_, fun V hV => hS V (((Fx.refl b w6).nu k).trans hV)⟩
  rcases hK i t hi with h | ⟨h1, c, t', m, h2⟩
  · exact .inl h
  · exact .inr ⟨h1, c, t', m, (k.block _ (blk_lt h2) (fun h => h)).trans h2⟩
theorem sq_within {B b : Nat} {w w' : World} {lim : Int} {v : Value} {L : List Sg} (h : Tb B w b lim v L) (lo hi : Int) {Bl Bh Br Bn r cap : Nat} (x0 : w'.heap[Bl]? = some (.cells #[.int .u64 lo] 23 (0, 0))) (x1 : w'.heap[Bh]? = some (.cells #[.int .u64 hi] 23 (0, 0))) (x2 : w'.heap[Br]? = some (.cells #[.func (.func 73) #[] #[.pointer (some ⟨Bn, 0, none⟩)]] 39 (0, 0)))
    (x3 : w'.heap[Bn]? = some (.cells #[.slice (some ⟨r, plc L lo * 3, none⟩) (L.drop (plc L lo)).length cap] 22 (0, 0))) (hr : v.ownBlock = some r) (hk : Kp Nu w w') : Sq b w' 45 #[.pointer (some ⟨Bl, 0, none⟩), .pointer (some ⟨Bh, 0, none⟩), .pointer (some ⟨Br, 0, none⟩)] (wiA lo hi L) := by
  have h' := h.nu hk
  obtain ⟨cur, hcur, hrow⟩ := h'.cur hr
  have hM : (L.drop (plc L lo)).length ≤ 8192 := by have := h.len; have := h.lim1; simp; omega
  have hrow2 := hrow.drop (plc L lo)
  rw [Nat.zero_add] at hrow2
  have n0 := h'.ne3 x0 (by decide)
  have n1 := h'.ne3 x1 (by decide)
  have n2 := h'.ne3 x2 (by decide)
  have n3 := h'.ne3 x3 (by decide)
  have n4 := h'.ne3 hcur (by decide)
  refine ⟨enters_of Tryd.func45 (by kernel_rfl) rfl, KW Bl Bh r, ?_⟩
  have hKf : Kf b w' (KW Bl Bh r) := fun k t hk => by
    rcases hk with e | e | e | e
    · exact .inr ⟨by rw [e]; exact n0, _, _, _, by rw [e]; exact x0⟩
    · exact .inr ⟨by rw [e]; exact n1, _, _, _, by rw [e]; exact x1⟩
    · exact .inr ⟨by rw [e]; exact n4, _, _, _, by rw [e]; exact hcur⟩
    · exact .inl e
  by_cases hlh : lo ≤ hi
  · refine ⟨(L.drop (plc L lo)).length, hKf, fun V hV => ?_⟩
    have SQ := within1_q V Bl Bh Br Bn r _ cap lo hi hlh _ cur hM hrow2 (hV _ _ _ _ n0 x0) (hV _ _ _ _ n1 x1) (hV _ _ _ _ n2 x2) (hV _ _ _ _ n3 x3) (hV _ _ _ _ n4 hcur)
    have e : wiA lo hi L = tk lo hi (L.drop (plc L lo)) := by unfold wiA; rw [if_pos hlh, wiD_tk hlh h.tab.cov]
    rw [e]
    exact SQ
  · refine ⟨0, hKf, fun V hV => ?_⟩
    have e : wiA lo hi L = [] := by unfold wiA; rw [if_neg hlh]
    rw [e]
    exact within0_q V Bl Bh Br lo hi (by omega) _ (hV _ _ _ _ n0 x0) (hV _ _ _ _ n1 x1)
theorem sq_all {B b : Nat} {w' : World} {lim : Int} {v : Value} {L : List Sg} (h' : Tb B w' b lim v L) {Bn r cap : Nat} (x3 : w'.heap[Bn]? = some (.cells #[.slice (some ⟨r, 0, none⟩) L.length cap] 22 (0, 0))) (hr : v.ownBlock = some r) : Sq b w' 73 #[.pointer (some ⟨Bn, 0, none⟩)] L := by
  obtain ⟨cur, hcur, hrow⟩ := h'.cur hr
  have hM : L.length ≤ 8192 := by have := h'.len; have := h'.lim1; omega
  have n3 := h'.ne3 x3 (by decide)
  have n4 := h'.ne3 hcur (by decide)
  refine ⟨enters_of Tryd.func73 (by kernel_rfl) rfl, (fun k _ => k = r), L.length, fun k t e => ?_, fun V hV => from_q Bn r 0 cap L cur hM hrow V (hV _ _ _ _ n3 x3) (hV _ _ _ _ n4 hcur)⟩
  have e : k = r := e
  exact .inr ⟨by rw [e]; exact n4, _, _, _, by rw [e]; exact hcur⟩
/-- a row of segments in other memory -/
theorem own_fx {b B : Nat} {w V : World} {u : Value} {W : List Sg} (h : w.ownsRow B 26 3 u W.length (cells W)) (hV : Fx b w V) (hb : ∃ c, w.heap[b]? = some (.cells c 93 (0, 0))) : V.ownsRow B 26 3 u W.length (cells W) :=
  own_keep h (fun g e => by
    rcases h.2 with ⟨h1, _⟩ | ⟨r, cap, cur, e1, hB, hg, _⟩
    · rw [h1] at e; cases e
    · rw [e1] at e
      have e3 : r = g := by simpa [Value.ownBlock] using e
      subst e3
      obtain ⟨c, hc⟩ := hb
      rw [hg]
      exact hV _ _ _ _ (fun e => by rw [e, hc] at hg; cases hg) hg)
end Go.Proofs.YtffcnonhhfhlhaaDoor.Rg
