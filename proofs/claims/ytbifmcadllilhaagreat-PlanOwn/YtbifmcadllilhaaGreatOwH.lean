import Derived.Test.YtbifmcadllilhaaGreatOwE
namespace Go.Proofs.YtbifmcadllilhaaGreat.Rg
open Go.RowKit Go.Shelf Go.Sort
set_option linter.unusedVariables false
/-- what is appended -/
def gM (i k : Nat) : List Value := [.int .u8 0, .int .u8 0, .int .u64 ((i : Int) + 1000), .int .u64 (k : Int), .int .i64 0]
def gS (i k : Nat) : List Value := [.int .u64 ((i : Int) + 1000), .int .u64 (k : Int), .int .u8 0]
def gI (i k : Nat) : List Value := [.int .i64 (1000 * (i : Int) + (k : Int))]
/-- a list that grows out of another one: where it lies, and that the other one reads as before -/
structure Gl (w0 w : World) (B t e : Nat) (v l : Value) (n m : Nat) (xs ys : List Value) : Prop where
  own : w.ownsRow B t e l m (xs ++ ys)
  old : Rdr w t e v n xs
  nm : n ≤ m
  blk : ∀ q, l.ownBlock = some q → v.ownBlock = some q ∨ w0.heap.size ≤ q
theorem Gl.start {w : World} {B t e n : Nat} {v : Value} {xs : List Value} (h : w.ownsRow B t e v n xs) : Gl w w B t e v v n n xs [] :=
  ⟨by rw [List.append_nil]; exact h, Rdr.of_own h, Nat.le_refl _, fun q hq => .inl hq⟩
/-- an append more -/
theorem Gl.app {w0 w w1 w2 : World} {B t e n m : Nat} {v l l' : Value} {xs ys news : List Value} (h : Gl w0 w B t e v l n m xs ys) (k : Kp Nu w w1) (hs : w0.heap.size ≤ w.heap.size) (hr : w2.ownsRow B t e l' (m + 1) ((xs ++ ys) ++ news)) (hg : w1.grownBy w2 l.ownBlock) (hb : l'.ownBlock = l.ownBlock ∨ l'.ownBlock = some w1.heap.size) (hw : ∀ q, l.ownBlock = some q → Rw w1 w2 q t (m * e) news) :
    Gl w0 w2 B t e v l' n (m + 1) xs (ys ++ news) ∧ (∀ T : Nat → Prop, (∀ q, some q = v.ownBlock → T q) → Kp T w0 w → Kp T w0 w2) := by
  have h1 : Rdr w1 t e v n xs := h.old.keep (fun q e => by
    obtain ⟨c, hc⟩ := h.old.obj e
    exact k.block q (blk_lt hc) (fun x => x))
  refine ⟨⟨by rw [← List.append_assoc]; exact hr, h1.app (B := B) (xs := xs ++ ys) h.nm hg hw, by have := h.nm; omega, fun q hq => ?_⟩, fun T hT kT => ?_⟩
  · rcases hb with e1 | e1
    · rw [e1] at hq; exact h.blk q hq
    · rw [e1] at hq
      cases hq
      have := k.size
      exact .inr (by omega)
  · refine (kT.andNu k).trans (Kp.of_grown hg) (fun q hq e1 => ?_)
    rcases h.blk q e1.symm with e2 | e2
    · exact hT q e2.symm
    · omega
/-- kept where neither block is touched -/
theorem Gl.keep {w0 w w' : World} {B t e n m : Nat} {v l : Value} {xs ys : List Value} (h : Gl w0 w B t e v l n m xs ys) {T : Nat → Prop} (k : Kp T w w') (hT : ∀ (q : Nat) (c : Array Value), w.heap[q]? = some (.cells c t (0, 0)) → ¬ T q) : Gl w0 w' B t e v l n m xs ys :=
  ⟨own_keep h.own (fun q e => by
    obtain ⟨c, hc⟩ := own_obj h.own e
    exact k.block q (blk_lt hc) (hT q c hc)), h.old.keep (fun q e => by
    obtain ⟨c, hc⟩ := h.old.obj e
    exact k.block q (blk_lt hc) (hT q c hc)), h.nm, h.blk⟩
/-- how far all lists have grown -/
structure Gw (wr : World) (B B1 t e : Nat) (vs : List Value) (ns : List Nat) (f g : Nat → Nat → List Value) (c : Nat) (ls : List Value) (i : Nat) : Prop where
  len : ls.length = i
  lev : ns.length = vs.length
  own : ∀ (j : Nat) v n, i ≤ j → vs[j]? = some v → ns[j]? = some n → wr.ownsRow B t e v n (mkl (f j) n)
  old : ∀ (j : Nat) v n, j < i → vs[j]? = some v → ns[j]? = some n → Rdr wr t e v n (mkl (f j) n)
  new : ∀ (j : Nat) l n, ls[j]? = some l → ns[j]? = some n → Rdr wr t e l (n + c) (mkl (f j) n ++ mkl (g j) c)
  blk : ∀ (j : Nat) l q, ls[j]? = some l → l.ownBlock = some q → (∃ v, vs[j]? = some v ∧ v.ownBlock = some q) ∨ B1 ≤ q
  lt : ∀ (j : Nat) v q, vs[j]? = some v → v.ownBlock = some q → q < B1
  dis : ∀ (i j : Nat) vi vj g, vs[i]? = some vi → vs[j]? = some vj → vi.ownBlock = some g → vj.ownBlock = some g → i = j
theorem Gw.start {w : World} {B t e : Nat} {vs : List Value} {ns : List Nat} {f g : Nat → Nat → List Value} {c : Nat} (h : En w B t e vs ns (fun j => mkl (f j) (ns.getD j 0))) : Gw w B w.heap.size t e vs ns f g c [] 0 := by
  have hr : ∀ (j : Nat) v n, vs[j]? = some v → ns[j]? = some n → w.ownsRow B t e v n (mkl (f j) n) := fun j v n hv hn => by
    have := h.row j v n hv hn
    rwa [List.getD_eq_getElem?_getD, hn] at this
  refine ⟨rfl, h.len, fun j v n _ hv hn => hr j v n hv hn, fun j v n hj => by omega, fun j l n hl => by simp at hl, fun j l q hl => by simp at hl, fun j v q hv hq => ?_, h.dis⟩
  have hl := (List.getElem?_eq_some_iff.1 hv).1
  exact own_lt (hr j v _ hv (List.getElem?_eq_getElem (by rw [h.len]; exact hl))) hq
/-- kept where none of the blocks is touched -/
theorem Gw.keep {w w' : World} {B B1 t e : Nat} {vs : List Value} {ns : List Nat} {f g : Nat → Nat → List Value} {c i : Nat} {ls : List Value} (h : Gw w B B1 t e vs ns f g c ls i) {T : Nat → Prop} (k : Kp T w w') (hT : ∀ (q : Nat) (cc : Array Value), w.heap[q]? = some (.cells cc t (0, 0)) → ¬ T q) : Gw w' B B1 t e vs ns f g c ls i :=
  ⟨h.len, h.lev, fun j v n hj hv hn => own_keep (h.own j v n hj hv hn) (fun q e => by
    obtain ⟨cc, hc⟩ := own_obj (h.own j v n hj hv hn) e
    exact k.block q (blk_lt hc) (hT q cc hc)), fun j v n hj hv hn => (h.old j v n hj hv hn).keep (fun q e => by
    obtain ⟨cc, hc⟩ := (h.old j v n hj hv hn).obj e
    exact k.block q (blk_lt hc) (hT q cc hc)), fun j l n hl hn => (h.new j l n hl hn).keep (fun q e => by
    obtain ⟨cc, hc⟩ := (h.new j l n hl hn).obj e
    exact k.block q (blk_lt hc) (hT q cc hc)), h.blk, h.lt, h.dis⟩
/-- one list more has grown -/
theorem Gw.step {w w' : World} {B B1 t e : Nat} {vs : List Value} {ns : List Nat} {f g : Nat → Nat → List Value} {c i n : Nat} {ls : List Value} {v l : Value} (h : Gw w B B1 t e vs ns f g c ls i) (hv : vs[i]? = some v) (hn : ns[i]? = some n) (hB1 : B1 ≤ w.heap.size)
    (hG : Gl w w' B t e v l n (n + c) (mkl (f i) n) (mkl (g i) c)) {T : Nat → Prop} (k : Kp T w w') (hT : ∀ (q : Nat) (cc : Array Value), w.heap[q]? = some (.cells cc t (0, 0)) → T q → some q = v.ownBlock) : Gw w' B B1 t e vs ns f g c (ls ++ [l]) (i + 1) := by
  have hlen := h.len
  have ext : ∀ (j : Nat) x, (ls ++ [l])[j]? = some x → ls[j]? = some x ∨ (j = i ∧ x = l) := fun j x hx => by
    rw [List.getElem?_append] at hx
    split at hx
    · exact .inl hx
    · rw [List.getElem?_singleton] at hx
      split at hx
      · cases hx; exact .inr ⟨by omega, rfl⟩
      · cases hx
  refine ⟨by rw [List.length_append]; simp [hlen], h.lev, fun j u m hj hu hm => ?_, fun j u m hj hu hm => ?_, fun j x m hx hm => ?_, fun j x q hx hq => ?_, h.lt, h.dis⟩
  · have hr := h.own j u m (by omega) hu hm
    exact own_keep hr (fun q e => by
      obtain ⟨cc, hc⟩ := own_obj hr e
      exact k.block q (blk_lt hc) (fun hTq => by
        have := h.dis j i u v q hu hv e (hT q cc hc hTq).symm
        omega))
  · by_cases ej : j = i
    · subst ej
      rw [hv] at hu; rw [hn] at hm
      cases hu; cases hm
      exact hG.old
    · have hr := h.old j u m (by omega) hu hm
      exact hr.keep (fun q e => by
        obtain ⟨cc, hc⟩ := hr.obj e
        exact k.block q (blk_lt hc) (fun hTq => ej (h.dis j i u v q hu hv e (hT q cc hc hTq).symm)))
  · rcases ext j x hx with hx | ⟨rfl, rfl⟩
    · have hr := h.new j x m hx hm
      exact hr.keep (fun q e => by
        obtain ⟨cc, hc⟩ := hr.obj e
        exact k.block q (blk_lt hc) (fun hTq => by
          have e2 := (hT q cc hc hTq).symm
          have hji : j < i := by rw [← hlen]; exact (List.getElem?_eq_some_iff.1 hx).1
          rcases h.blk j x q hx e with ⟨u, hu, e3⟩ | e3
          · have := h.dis j i u v q hu hv e3 e2
            omega
          · have := h.lt i v q hv e2
            omega))
    · rw [hn] at hm
      cases hm
      exact Rdr.of_own hG.own
  · rcases ext j x hx with hx | ⟨rfl, rfl⟩
    · exact h.blk j x q hx hq
    · rcases hG.blk q hq with e | e
      · exact .inl ⟨v, hv, e⟩
      · exact .inr (by omega)
theorem app_at {F G : Nat → List Value} {e n c k j : Nat} (hF : ∀ k, (F k).length = e) (hG : ∀ k, (G k).length = e) (h1 : n ≤ k) (h2 : k < n + c) (hj : j < e) : (mkl F n ++ mkl G c)[k * e + j]? = (G (k - n))[j]? := by
  have hl := mkl_len hF n
  have h3 : n * e ≤ k * e := Nat.mul_le_mul_right _ h1
  rw [List.getElem?_append_right (by rw [hl]; omega), hl]
  have h4 : k * e + j - n * e = (k - n) * e + j := by
    rw [Nat.sub_mul]; omega
  rw [h4]
  exact mkl_at hG (by omega) hj
end Go.Proofs.YtbifmcadllilhaaGreat.Rg
namespace Go.Proofs.YtbifmcadllilhaaGreat.Rg
open Go.RowKit Go.Shelf Go.Sort
set_option linter.unusedVariables false
theorem mkl_zero (F : Nat → List Value) : mkl F 0 = [] := rfl
/-- what stands when all lists have grown -/
structure Grn (B1 : Nat) (wE : World) (B b : Nat) (mv sv iv : Value) (ml sl il : List Value) (mn sn kn : List Nat) (mx sx ix : Value) (lm lg li : List Value) : Prop where
  bk : Bk wE B b mv sv iv ml sl il
  m : Rdr wE 27 1 mx lm.length lm
  s : Rdr wE 22 1 sx lg.length lg
  i : Rdr wE 45 1 ix li.length li
  gm : Gw wE B B1 41 5 ml mn fM gM 20 lm lm.length
  gs : Gw wE B B1 38 3 sl sn fS gS 20 lg lg.length
  gi : Gw wE B B1 3 1 il kn fI gI 40 li li.length
  lm : lm.length = ml.length
  lg : lg.length = sl.length
  li : li.length = il.length
theorem Grn.nu {B1 : Nat} {w w' : World} {B b : Nat} {mv sv iv : Value} {ml sl il : List Value} {mn sn kn : List Nat} {mx sx ix : Value} {lm lg li : List Value} (h : Grn B1 w B b mv sv iv ml sl il mn sn kn mx sx ix lm lg li) (k : Kp Nu w w') : Grn B1 w' B b mv sv iv ml sl il mn sn kn mx sx ix lm lg li := by
  have rk : ∀ {t e n : Nat} {v : Value} {xs : List Value}, Rdr w t e v n xs → Rdr w' t e v n xs := fun hr => hr.keep (fun g e => by
    obtain ⟨c, hc⟩ := hr.obj e
    exact k.block g (blk_lt hc) (fun x => x))
  exact ⟨h.bk.nu k, rk h.m, rk h.s, rk h.i, h.gm.keep k (fun _ _ _ x => x), h.gs.keep k (fun _ _ _ x => x), h.gi.keep k (fun _ _ _ x => x), h.lm, h.lg, h.li⟩
theorem Gw.full {w : World} {B B1 t e : Nat} {vs : List Value} {ns : List Nat} {f g : Nat → Nat → List Value} {c i : Nat} {ls : List Value} (h : Gw w B B1 t e vs ns f g c ls i) : Gw w B B1 t e vs ns f g c ls ls.length := by rw [h.len]; exact h
theorem Rdr.cast {w : World} {t e n m : Nat} {v : Value} {xs : List Value} (h : Rdr w t e v n xs) (hm : m = n) : Rdr w t e v m xs := by subst hm; exact h
/-- an element of a list as it was -/
theorem Gw.cellO {w : World} {B B1 t e : Nat} {vs : List Value} {ns : List Nat} {f g : Nat → Nat → List Value} {c i n cp j k q : Nat} {ls : List Value} {a : Option Addr} {u : Value} (h : Gw w B B1 t e vs ns f g c ls i) (hj : j < i) (hv : vs[j]? = some (.slice a n cp)) (hn : ns[j]? = some n) (hf : ∀ k, (f j k).length = e) (hk : k < n) (hq : q < e) (hu : (f j k)[q]? = some u) : ∃ b, a = some ⟨b, 0, none⟩ ∧ w.cell? ⟨b, k * e + q, none⟩ = some u :=
  (h.old j _ n hj hv hn).cell (by rw [mkl_at hf hk hq]; exact hu)
/-- and one of those it grew by -/
theorem Gw.cellN {w : World} {B B1 t e : Nat} {vs : List Value} {ns : List Nat} {f g : Nat → Nat → List Value} {c i n cp j k q : Nat} {ls : List Value} {a : Option Addr} {u : Value} (h : Gw w B B1 t e vs ns f g c ls i) (hl : ls[j]? = some (.slice a (n + c) cp)) (hn : ns[j]? = some n) (hf : ∀ k, (f j k).length = e) (hg : ∀ k, (g j k).length = e) (hk : n ≤ k) (hk2 : k < n + c) (hq : q < e) (hu : (g j (k - n))[q]? = some u) : ∃ b, a = some ⟨b, 0, none⟩ ∧ w.cell? ⟨b, k * e + q, none⟩ = some u :=
  (h.new j _ n hl hn).cell (by rw [app_at hf hg hk hk2 hq]; exact hu)
theorem kp_row {w w1 w2 : World} {v : Value} (k : Kp Nu w w1) (hg : w1.grownBy w2 v.ownBlock) : Kp (fun q => some q = v.ownBlock) w w2 := (k.mono (fun _ _ e => e.elim)).trans (Kp.of_grown hg) (fun _ _ e => e)
theorem Gl.cast {w0 w : World} {B t e n k c : Nat} {v l : Value} {xs : List Value} {g : Nat → List Value} (h : Gl w0 w B t e v l n (n + k) xs (mkl g k)) (ek : k = c) : Gl w0 w B t e v l n (n + c) xs (mkl g c) := by subst ek; exact h
theorem Rdr.cell2 {w : World} {t e n n' : Nat} {a : Option Addr} {c : Nat} {xs : List Value} (h : Rdr w t e (.slice a n' c) n xs) {j : Nat} {u : Value} (hj : xs[j]? = some u) : ∃ g, a = some ⟨g, 0, none⟩ ∧ w.cell? ⟨g, j, none⟩ = some u := by
  obtain ⟨a', c', e⟩ := h.slice
  simp only [Value.slice.injEq] at e
  obtain ⟨rfl, rfl, rfl⟩ := e
  exact h.cell hj
theorem two_addr {a : Option Addr} {b b' : Nat} {P : Nat → Prop} (h : a = some ⟨b, 0, none⟩) (h' : a = some ⟨b', 0, none⟩) (hp : P b') : P b := by
  rw [h] at h'; cases h'; exact hp
theorem Gw.fiveO {w : World} {B B1 c i n cp j k : Nat} {vs ls : List Value} {ns : List Nat} {g : Nat → Nat → List Value} {a : Option Addr} (h : Gw w B B1 41 5 vs ns fM g c ls i) (hj : j < i) (hv : vs[j]? = some (.slice a n cp)) (hn : ns[j]? = some n) (hk : k < n) :
    ∃ b, a = some ⟨b, 0, none⟩ ∧ w.cell? ⟨b, k * 5, none⟩ = some (.int .u8 0) ∧ w.cell? ⟨b, k * 5 + 1, none⟩ = some (.int .u8 0) ∧ w.cell? ⟨b, k * 5 + 2, none⟩ = some (.int .u64 (j : Int)) ∧ w.cell? ⟨b, k * 5 + 3, none⟩ = some (.int .u64 (k : Int)) ∧ w.cell? ⟨b, k * 5 + 4, none⟩ = some (.int .i64 0) := by
  obtain ⟨b, e0, x0⟩ := h.cellO (q := 0) hj hv hn (fun _ => rfl) hk (by decide) rfl
  obtain ⟨b1, e1, x1⟩ := h.cellO (q := 1) hj hv hn (fun _ => rfl) hk (by decide) rfl
  obtain ⟨b2, e2, x2⟩ := h.cellO (q := 2) hj hv hn (fun _ => rfl) hk (by decide) rfl
  obtain ⟨b3, e3, x3⟩ := h.cellO (q := 3) hj hv hn (fun _ => rfl) hk (by decide) rfl
  obtain ⟨b4, e4, x4⟩ := h.cellO (q := 4) hj hv hn (fun _ => rfl) hk (by decide) rfl
  subst e0
  cases e1; cases e2; cases e3; cases e4
  exact ⟨b, rfl, x0, x1, x2, x3, x4⟩
theorem Gw.fiveN {w : World} {B B1 c i n cp j k : Nat} {vs ls : List Value} {ns : List Nat} {a : Option Addr} (h : Gw w B B1 41 5 vs ns fM gM c ls i) (hl : ls[j]? = some (.slice a (n + c) cp)) (hn : ns[j]? = some n) (hk : n ≤ k) (hk2 : k < n + c) :
    ∃ b, a = some ⟨b, 0, none⟩ ∧ w.cell? ⟨b, k * 5, none⟩ = some (.int .u8 0) ∧ w.cell? ⟨b, k * 5 + 1, none⟩ = some (.int .u8 0) ∧ w.cell? ⟨b, k * 5 + 2, none⟩ = some (.int .u64 ((j : Int) + 1000)) ∧ w.cell? ⟨b, k * 5 + 3, none⟩ = some (.int .u64 ((k : Int) - (n : Int))) ∧ w.cell? ⟨b, k * 5 + 4, none⟩ = some (.int .i64 0) := by
  obtain ⟨b, e0, x0⟩ := h.cellN (q := 0) hl hn (fun _ => rfl) (fun _ => rfl) hk hk2 (by decide) rfl
  obtain ⟨b1, e1, x1⟩ := h.cellN (q := 1) hl hn (fun _ => rfl) (fun _ => rfl) hk hk2 (by decide) rfl
  obtain ⟨b2, e2, x2⟩ := h.cellN (q := 2) hl hn (fun _ => rfl) (fun _ => rfl) hk hk2 (by decide) rfl
  obtain ⟨b3, e3, x3⟩ := h.cellN (q := 3) hl hn (fun _ => rfl) (fun _ => rfl) hk hk2 (by decide) rfl
  obtain ⟨b4, e4, x4⟩ := h.cellN (q := 4) hl hn (fun _ => rfl) (fun _ => rfl) hk hk2 (by decide) rfl
  subst e0
  cases e1; cases e2; cases e3; cases e4
  have ek : ((k - n : Nat) : Int) = (k : Int) - (n : Int) := by omega
  rw [ek] at x3
  exact ⟨b, rfl, x0, x1, x2, x3, x4⟩
theorem Gw.threeO {w : World} {B B1 c i n cp j k : Nat} {vs ls : List Value} {ns : List Nat} {g : Nat → Nat → List Value} {a : Option Addr} (h : Gw w B B1 38 3 vs ns fS g c ls i) (hj : j < i) (hv : vs[j]? = some (.slice a n cp)) (hn : ns[j]? = some n) (hk : k < n) :
    ∃ b, a = some ⟨b, 0, none⟩ ∧ w.cell? ⟨b, k * 3, none⟩ = some (.int .u64 (j : Int)) ∧ w.cell? ⟨b, k * 3 + 1, none⟩ = some (.int .u64 (k : Int)) ∧ w.cell? ⟨b, k * 3 + 2, none⟩ = some (.int .u8 0) := by
  obtain ⟨b, e0, x0⟩ := h.cellO (q := 0) hj hv hn (fun _ => rfl) hk (by decide) rfl
  obtain ⟨b1, e1, x1⟩ := h.cellO (q := 1) hj hv hn (fun _ => rfl) hk (by decide) rfl
  obtain ⟨b2, e2, x2⟩ := h.cellO (q := 2) hj hv hn (fun _ => rfl) hk (by decide) rfl
  subst e0
  cases e1; cases e2
  exact ⟨b, rfl, x0, x1, x2⟩
theorem Gw.threeN {w : World} {B B1 c i n cp j k : Nat} {vs ls : List Value} {ns : List Nat} {a : Option Addr} (h : Gw w B B1 38 3 vs ns fS gS c ls i) (hl : ls[j]? = some (.slice a (n + c) cp)) (hn : ns[j]? = some n) (hk : n ≤ k) (hk2 : k < n + c) :
    ∃ b, a = some ⟨b, 0, none⟩ ∧ w.cell? ⟨b, k * 3, none⟩ = some (.int .u64 ((j : Int) + 1000)) ∧ w.cell? ⟨b, k * 3 + 1, none⟩ = some (.int .u64 ((k : Int) - (n : Int))) ∧ w.cell? ⟨b, k * 3 + 2, none⟩ = some (.int .u8 0) := by
  obtain ⟨b, e0, x0⟩ := h.cellN (q := 0) hl hn (fun _ => rfl) (fun _ => rfl) hk hk2 (by decide) rfl
  obtain ⟨b1, e1, x1⟩ := h.cellN (q := 1) hl hn (fun _ => rfl) (fun _ => rfl) hk hk2 (by decide) rfl
  obtain ⟨b2, e2, x2⟩ := h.cellN (q := 2) hl hn (fun _ => rfl) (fun _ => rfl) hk hk2 (by decide) rfl
  subst e0
  cases e1; cases e2
  have ek : ((k - n : Nat) : Int) = (k : Int) - (n : Int) := by omega
  rw [ek] at x1
  exact ⟨b, rfl, x0, x1, x2⟩
theorem Gw.oneO {w : World} {B B1 c i n cp j k : Nat} {vs ls : List Value} {ns : List Nat} {g : Nat → Nat → List Value} {a : Option Addr} (h : Gw w B B1 3 1 vs ns fI g c ls i) (hj : j < i) (hv : vs[j]? = some (.slice a n cp)) (hn : ns[j]? = some n) (hk : k < n) :
    ∃ b, a = some ⟨b, 0, none⟩ ∧ w.cell? ⟨b, k, none⟩ = some (.int .i64 (-1000 * (j : Int) - (k : Int) - 1)) := by
  obtain ⟨b, e0, x0⟩ := h.cellO (q := 0) hj hv hn (fun _ => rfl) hk (by decide) rfl
  have ek : k * 1 + 0 = k := by omega
  rw [ek] at x0
  exact ⟨b, e0, x0⟩
theorem Gw.oneN {w : World} {B B1 c i n cp j k : Nat} {vs ls : List Value} {ns : List Nat} {a : Option Addr} (h : Gw w B B1 3 1 vs ns fI gI c ls i) (hl : ls[j]? = some (.slice a (n + c) cp)) (hn : ns[j]? = some n) (hk : n ≤ k) (hk2 : k < n + c) :
    ∃ b, a = some ⟨b, 0, none⟩ ∧ w.cell? ⟨b, k, none⟩ = some (.int .i64 (1000 * (j : Int) + (k : Int) - (n : Int))) := by
  obtain ⟨b, e0, x0⟩ := h.cellN (q := 0) hl hn (fun _ => rfl) (fun _ => rfl) hk hk2 (by decide) rfl
  have ek : k * 1 + 0 = k := by omega
  have ek2 : 1000 * (j : Int) + ((k - n : Nat) : Int) = 1000 * (j : Int) + (k : Int) - (n : Int) := by omega
  rw [ek, ek2] at x0
  exact ⟨b, e0, x0⟩
theorem w64s {x : Int} (h0 : -1000000000 ≤ x) (h1 : x ≤ 1000000000) : wrap64 x = x := by unfold wrap64; omega
theorem wi64s {x : Int} (h0 : -1000000000 ≤ x) (h1 : x ≤ 1000000000) : IntKind.i64.wrap x = x := by rw [IntKind.wrap_i64]; omega
theorem wu64s {x : Int} (h0 : 0 ≤ x) (h1 : x ≤ 1000000000) : IntKind.u64.wrap x = x := by rw [IntKind.wrap_u64]; omega
theorem nz (k : Nat) : (0 : Int) ≤ (k : Int) := by omega
theorem tn (k : Nat) : (k : Int).toNat = k := by omega
theorem tns (k : Nat) : ((k : Int) + 1).toNat = k + 1 := by omega
theorem ins (k : Nat) : Value.int .i64 ((k : Int) + 1) = Value.int .i64 ((k + 1 : Nat) : Int) := by rw [Int.natCast_succ]
theorem lti {k n : Nat} (h : k < n) : (k : Int) < (n : Int) := by omega
theorem nlti {k n : Nat} (h : ¬ k < n) : ¬ (k : Int) < (n : Int) := by omega
theorem gei {k n : Nat} (h : ¬ k < n) : (k : Int) ≥ (n : Int) := by omega
theorem lt20 {k n : Nat} (h : k < n + 20) : (k : Int) < (n : Int) + 20 := by omega
theorem nlt20 {k n : Nat} (h : ¬ k < n + 20) : ¬ (k : Int) < (n : Int) + 20 := by omega
theorem lt40 {k n : Nat} (h : k < n + 40) : (k : Int) < (n : Int) + 40 := by omega
theorem nlt40 {k n : Nat} (h : ¬ k < n + 40) : ¬ (k : Int) < (n : Int) + 40 := by omega
theorem fin20 {k n : Nat} (h : k < n) : k + 1 ≤ n ∧ n - (k + 1) < n - k := by omega
theorem ltc {k n c : Nat} (h : k < n + c) : (k : Int) < ((n + c : Nat) : Int) := by omega
theorem wn20 {n : Nat} (h : n ≤ 20000) : wrap64 ((n : Int) + 20) = (n : Int) + 20 ∧ IntKind.i64.wrap ((n : Int) + 20) = (n : Int) + 20 := ⟨w64s (by omega) (by omega), wi64s (by omega) (by omega)⟩
theorem wn40 {n : Nat} (h : n ≤ 20000) : wrap64 ((n : Int) + 40) = (n : Int) + 40 ∧ IntKind.i64.wrap ((n : Int) + 40) = (n : Int) + 40 := ⟨w64s (by omega) (by omega), wi64s (by omega) (by omega)⟩
theorem wup {p : Nat} (h : p ≤ 100000) : IntKind.u64.wrap (p : Int) = (p : Int) := wu64s (by omega) (by omega)
theorem wp1000 {p : Nat} (h : p ≤ 100) : IntKind.u64.wrap ((p : Int) + 1000) = (p : Int) + 1000 ∧ IntKind.i64.wrap ((p : Int) + 1000) = (p : Int) + 1000 ∧ wrap64 ((p : Int) + 1000) = (p : Int) + 1000 := ⟨wu64s (by omega) (by omega), wi64s (by omega) (by omega), w64s (by omega) (by omega)⟩
theorem wkn {k n : Nat} (h : ¬ k < n) (h2 : k < n + 20) : IntKind.u64.wrap ((k : Int) - (n : Int)) = (k : Int) - (n : Int) ∧ IntKind.i64.wrap ((k : Int) - (n : Int)) = (k : Int) - (n : Int) ∧ wrap64 ((k : Int) - (n : Int)) = (k : Int) - (n : Int) := ⟨wu64s (by omega) (by omega), wi64s (by omega) (by omega), w64s (by omega) (by omega)⟩
theorem wneg {p k n : Nat} (hp : p ≤ 100) (hk : k < n + 40) (hn : n ≤ 20000) : (IntKind.i64.wrap (-1000 * (p : Int)) = -1000 * (p : Int) ∧ IntKind.i64.wrap (-1000 * (p : Int) - (k : Int)) = -1000 * (p : Int) - (k : Int) ∧ IntKind.i64.wrap (-1000 * (p : Int) - (k : Int) - 1) = -1000 * (p : Int) - (k : Int) - 1) ∧ (wrap64 (-1000 * (p : Int)) = -1000 * (p : Int) ∧ wrap64 (-1000 * (p : Int) - (k : Int)) = -1000 * (p : Int) - (k : Int) ∧ wrap64 (-1000 * (p : Int) - (k : Int) - 1) = -1000 * (p : Int) - (k : Int) - 1) := ⟨⟨wi64s (by omega) (by omega), wi64s (by omega) (by omega), wi64s (by omega) (by omega)⟩, w64s (by omega) (by omega), w64s (by omega) (by omega), w64s (by omega) (by omega)⟩
theorem wpos {p k n : Nat} (hp : p ≤ 100) (hk : k < n + 40) (hn : n ≤ 20000) : (IntKind.i64.wrap (1000 * (p : Int)) = 1000 * (p : Int) ∧ IntKind.i64.wrap (1000 * (p : Int) + (k : Int)) = 1000 * (p : Int) + (k : Int) ∧ IntKind.i64.wrap (1000 * (p : Int) + (k : Int) - (n : Int)) = 1000 * (p : Int) + (k : Int) - (n : Int)) ∧ (wrap64 (1000 * (p : Int)) = 1000 * (p : Int) ∧ wrap64 (1000 * (p : Int) + (k : Int)) = 1000 * (p : Int) + (k : Int) ∧ wrap64 (1000 * (p : Int) + (k : Int) - (n : Int)) = 1000 * (p : Int) + (k : Int) - (n : Int)) := ⟨⟨wi64s (by omega) (by omega), wi64s (by omega) (by omega), wi64s (by omega) (by omega)⟩, w64s (by omega) (by omega), w64s (by omega) (by omega), w64s (by omega) (by omega)⟩
theorem wk1 {k : Nat} (h : k ≤ 100000) : wrap64 ((k : Int) + 1) = (k : Int) + 1 ∧ IntKind.i64.wrap ((k : Int) + 1) = (k : Int) + 1 := ⟨w64s (by omega) (by omega), wi64s (by omega) (by omega)⟩
theorem kle {k n c : Nat} (h : k < n + c) (hn : n ≤ 20000) (hc : c ≤ 100) : k ≤ 100000 := by omega
end Go.Proofs.YtbifmcadllilhaaGreat.Rg
