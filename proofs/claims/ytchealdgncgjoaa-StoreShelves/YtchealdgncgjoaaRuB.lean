import Derived.Test.YtchealdgncgjoaaRuA
namespace Go.Proofs.Ytchealdgncgjoaa.StU
open Go.RowKit Go.Proofs.Ytchealdgncgjoaa.St Go.Shelf
set_option linter.unusedVariables false
set_option linter.unusedSimpArgs false
/-- the pairs that the law hands in, one more behind them -/
structure Mo (g cap : Nat) (L : List (Int × Sv)) (A : List KV) (W : World) (G : Nat → Prop) : Prop where
  own : W.ownsRow 0 78 2 (.slice (some ⟨g, 0, none⟩) (A.length + 1) cap) (A.length + 1) (pc (L ++ [(4713, ⟨none, 0, 0⟩)]))
  f : F2 (fun p m => p.1 = m.1 ∧ Rm W 0 p.2 m.2) L A
  ap : L.Pairwise (fun p q => ∀ g, (sl p.2).ownBlock = some g → (sl q.2).ownBlock ≠ some g)
  gg : G g
  gv : ∀ p ∈ L, ∀ i, (sl p.2).ownBlock = some i → G i
structure To (u : Sv) (L : List (Int × Sv)) (A : List KV) (W : World) (G : Nat → Prop) : Prop where
  own : W.ownsRow 0 196 2 (.slice u.a u.n u.c) u.n (pc L)
  f : F2 (fun p m => p.1 = m.1 ∧ Rn W 0 p.2 m.2) L A
  gg : ∀ i, (sl u).ownBlock = some i → G i
  gv : ∀ p ∈ L, ∀ i, (sl p.2).ownBlock = some i → G i
theorem Own.mo (g cap : Nat) (L : List (Int × Sv)) (A : List KV) : Own (Mo g cap L A) := ⟨fun h k hd =>
    ⟨own_keepR h.own k hd (fun i hi => by simp [Value.ownBlock] at hi; rw [← hi]; exact h.gg), h.f.imp2 (fun p m hp hf => ⟨hf.1, vl_rm.keep hf.2 (fun i hi => by
      obtain ⟨cur, hc⟩ := vl_rm.obj hf.2 hi
      exact k.block i (blk_lt hc) (fun q => hd i (blk_lt hc) q.1 (h.gv p hp i hi)))⟩), h.ap, h.gg, h.gv⟩,
  fun h hg => ⟨h.own, h.f, h.ap, hg _ (own_lt h.own rfl) h.gg, fun p hp i hi => by
    obtain ⟨j, hj⟩ := List.mem_iff_getElem?.1 hp
    obtain ⟨m, _, hf⟩ := h.f.at hj
    obtain ⟨cur, hc⟩ := vl_rm.obj hf.2 hi
    exact hg i (blk_lt hc) (h.gv p hp i hi)⟩⟩
theorem Own.to (u : Sv) (L : List (Int × Sv)) (A : List KV) : Own (To u L A) := ⟨fun h k hd =>
    ⟨own_keepR h.own k hd (fun i hi => h.gg i hi), h.f.imp2 (fun p m hp hf => ⟨hf.1, vl_rn.keep hf.2 (fun i hi => by
      obtain ⟨cur, hc⟩ := vl_rn.obj hf.2 hi
      exact k.block i (blk_lt hc) (fun q => hd i (blk_lt hc) q.1 (h.gv p hp i hi)))⟩), h.gg, h.gv⟩,
  fun h hg => ⟨h.own, h.f, fun i hi => hg i (own_lt h.own hi) (h.gg i hi), fun p hp i hi => by
    obtain ⟨j, hj⟩ := List.mem_iff_getElem?.1 hp
    obtain ⟨m, _, hf⟩ := h.f.at hj
    obtain ⟨cur, hc⟩ := vl_rn.obj hf.2 hi
    exact hg i (blk_lt hc) (h.gv p hp i hi)⟩⟩
/-- what the pairs of the script are -/
def AOk (A : List KV) : Prop := A.length ≤ 4398046510976 ∧ ∀ m ∈ A, Byt m.2 ∧ 0 ≤ m.1 ∧ m.1 ≤ 18446744073709551615 ∧ m.2.length ≤ 140737488351232
theorem pgs_len {L : List (Int × Sv)} {A : List KV} {R : Int × Sv → KV → Prop} (h : F2 R L A) : (pgs L A).length = A.length := by
  rw [← congrArg List.length (pgs_map h), List.length_map]
theorem row_cell {W : World} {e : TypeId} {g cap n : Nat} {l : List Value} (h : W.ownsRow 0 e 2 (.slice (some ⟨g, 0, none⟩) n cap) n l) {j : Nat} {x : Value} (hx : l[j]? = some x) : W.cell? ⟨g, j, none⟩ = some x := by
  rcases h.2 with ⟨e, h0⟩ | ⟨g', cap', cur, ev, hb', hg, q1, q2, q3, q4⟩
  · cases e
  · cases ev
    rw [← q4, List.getElem?_take] at hx
    split at hx
    · simp [World.cell?, hg]; simpa using hx
    · cases hx
theorem F2.at3 {α β : Type} {R : α → β → Prop} {xs : List α} {zs : List β} {j : Nat} {b : β} (h : F2 R xs zs) (hb : zs[j]? = some b) : ∃ a, xs[j]? = some a ∧ R a b := by
  have hj : j < xs.length := by rw [h.length]; exact (List.getElem?_eq_some_iff.1 hb).1
  exact ⟨_, List.getElem?_eq_getElem hj, F2.at2 h (List.getElem?_eq_getElem hj) hb⟩
section
variable {W : World} {G : Nat → Prop} {g cap : Nat} {u : Sv} {L : List (Int × Sv)} {A : List KV}
theorem Mo.at_ (h : Mo g cap L A W G) {i : Nat} {m : KV} (hm : A[i]? = some m) : ∃ p, L[i]? = some p ∧ p.1 = m.1 ∧ Rm W 0 p.2 m.2 ∧ W.cell? ⟨g, i * 2, none⟩ = some (.int .u64 m.1) ∧ W.cell? ⟨g, i * 2 + 1, none⟩ = some (.slice p.2.a p.2.n p.2.c) := by
  obtain ⟨p, hp, hf⟩ := F2.at3 h.f hm
  have hi : i < L.length := (List.getElem?_eq_some_iff.1 hp).1
  obtain ⟨d0, d1⟩ := pc_at (L ++ [(4713, ⟨none, 0, 0⟩)]) i p (by rw [List.getElem?_append_left hi]; exact hp)
  exact ⟨p, hp, hf.1, hf.2, (row_cell h.own d0).trans (by rw [hf.1]), row_cell h.own d1⟩
theorem Mo.last (h : Mo g cap L A W G) : W.cell? ⟨g, A.length * 2, none⟩ = some (.int .u64 4713) := by
  have hl := h.f.length
  obtain ⟨d0, d1⟩ := pc_at (L ++ [(4713, ⟨none, 0, 0⟩)]) A.length (4713, ⟨none, 0, 0⟩) (by rw [← hl]; simp)
  exact row_cell h.own d0
theorem Mo.wp (h : Mo g cap L A W G) (hA : AOk A) : ∃ S, Wp W (.slice (some ⟨g, 0, none⟩) A.length cap) S ∧ S.map kv = A := by
  refine ⟨pgs L A, ⟨_, cap, by rw [pgs_len h.f], fun i s hs => ?_⟩, pgs_map h.f⟩
  obtain ⟨p, m, e1, e2, rfl⟩ := pgs_at L A i s hs
  obtain ⟨p', h1', hk, hr, d0, d1⟩ := h.at_ e2
  rw [e1] at h1'; cases h1'
  have ha := hA.2 m (List.mem_of_getElem? e2)
  exact ⟨g, 0, rfl, by rw [Nat.zero_add]; exact d0, by rw [Nat.zero_add]; exact d1, hr.rd, ha.1, ha.2.1, ha.2.2.1, by have := ha.2.2.2; dsimp only; omega⟩
theorem To.wp (h : To u L A W G) (hA : AOk A) : ∃ S, Wp W (.slice u.a A.length u.c) S ∧ S.map kv = A := by
  refine ⟨pgs L A, ⟨u.a, u.c, by rw [pgs_len h.f], fun i s hs => ?_⟩, pgs_map h.f⟩
  obtain ⟨p, m, e1, e2, rfl⟩ := pgs_at L A i s hs
  obtain ⟨p', h1', hf⟩ := F2.at3 h.f e2
  rw [e1] at h1'; cases h1'
  have ha := hA.2 m (List.mem_of_getElem? e2)
  obtain ⟨d0, d1⟩ := pc_at L i p e1
  obtain ⟨ua, un, uc⟩ := u
  have ho := h.own
  rcases h.own.2 with ⟨e, h0⟩ | ⟨g, cap', cur, ev, hb', hg, q1, q2, q3, q4⟩
  · have h1 := ho.1
    rw [pc_length] at h1
    have := (List.getElem?_eq_some_iff.1 e1).1
    simp only at h1 h0; omega
  · simp only at ev ho
    cases ev
    exact ⟨g, 0, rfl, by rw [Nat.zero_add]; exact (row_cell ho d0).trans (by rw [hf.1]), by rw [Nat.zero_add]; exact row_cell ho d1, vl_rn.rd hf.2, ha.1, ha.2.1, ha.2.2.1, by have := ha.2.2.2; dsimp only; omega⟩
end
theorem layC_kv {o : Om} {S S' : List Pg} {c : Int} (h : S.map kv = S'.map kv) (h1 : layC o S c) : layC o S' c ∧ oLay o S c = oLay o S' c := by
  cases o with
  | none => exact ⟨h1, rfl⟩
  | some x => exact ⟨barr_kv h h1, by unfold oLay; rw [Option.map_some, Option.map_some, layM_kv h]⟩
abbrev oMo (g cap : Nat) (L : List (Int × Sv)) (A : List KV) (n : Nat) : Ob := (Mo g cap L A, n)
abbrev oTo (u : Sv) (L : List (Int × Sv)) (A : List KV) (n : Nat) : Ob := (To u L A, n)
section
variable {W0 w0 w w' : World} {col0 : Nat → Nat} {c d : Nat} {a b : Value} {obs : List Ob} {o1 o2 o : Om} {X Y : World → (Nat → Prop) → Prop}
theorem Sx.new2 (h : Sx W0 w0 col0 c d a b obs o1 o2 w) (k : Kp Nu w w') (OX : Own X) (OY : Own Y) (hX : X w' (fun i => w.heap.size ≤ i)) (hY : Y w' (fun i => w.heap.size ≤ i)) (n : Nat) (hn : 5 ≤ n) : Sx W0 w0 col0 c d a b ((X, n) :: (Y, n) :: obs) o1 o2 w' := by
  obtain ⟨col, h⟩ := h
  refine ⟨ext w col n, h.nm, h.bz.nu k n, (Own.ps a o1).nu h.ps k n, (Own.ds b o2).nu h.ds k n, fun x hx => ?_, h.fr.nu k n⟩
  rcases List.mem_cons.1 hx with rfl | hx
  · exact ⟨OX, .inl hn, OX.new hX n⟩
  · rcases List.mem_cons.1 hx with rfl | hx
    · exact ⟨OY, .inl hn, OY.new hY n⟩
    · exact ⟨(h.ob x hx).1, (h.ob x hx).2.1, (h.ob x hx).1.nu (h.ob x hx).2.2 k n⟩
theorem Sx.layP (h : Sx W0 w0 col0 c d a b obs o1 o2 w) (i : Nat) {g cap n : Nat} {L : List (Int × Sv)} {A : List KV} (hi : obs[i]? = some (oMo g cap L A n)) (hA : AOk A) (S0 : List Pg) (hS0 : S0.map kv = A) :
    Calls Try.prog 64 #[a, .slice (some ⟨g, 0, none⟩) A.length cap] w fun e w' => ∃ r, e = .returned (.int .i64 r) ∧ Hid (layC o1 S0 r ∧ Sx W0 w0 col0 c d a b obs (oLay o1 S0 r) o2 w') := by
  obtain ⟨col, h⟩ := h
  obtain ⟨S, hS, e⟩ := Mo.wp (h.get i hi) hA
  refine (h.ps.lay _ S hS (by have := congrArg List.length e; rw [List.length_map] at this; have := hA.1; omega)).mono ?_
  rintro e' w' ⟨r, e1, e2, e3⟩
  obtain ⟨f1, f2⟩ := layC_kv (e.trans hS0.symm) e2
  have e4 := e3.out
  rw [f2] at e4
  exact ⟨r, e1, f1, h.p e4.1 e4.2⟩
theorem Sx.layD (h : Sx W0 w0 col0 c d a b obs o1 o2 w) (i : Nat) {u : Sv} {n : Nat} {L : List (Int × Sv)} {A : List KV} (hi : obs[i]? = some (oTo u L A n)) (hA : AOk A) (S0 : List Pg) (hS0 : S0.map kv = A) (h5 : ∀ x ∈ obs, 5 ≤ x.2) :
    Calls Try.prog 187 #[b, .slice u.a A.length u.c] w fun e w' => ∃ r, e = .returned (.int .i64 r) ∧ Hid (layC o2 S0 r ∧ Sx W0 w0 col0 c d a b obs o1 (oLay o2 S0 r) w') := by
  obtain ⟨col, h⟩ := h
  obtain ⟨S, hS, e⟩ := To.wp (h.get i hi) hA
  refine (h.ds.lay _ S hS (by have := congrArg List.length e; rw [List.length_map] at this; have := hA.1; omega)).mono ?_
  rintro e' w' ⟨r, e1, e2, e3⟩
  obtain ⟨f1, f2⟩ := layC_kv (e.trans hS0.symm) e2
  have e4 := e3.out
  rw [f2] at e4
  exact ⟨r, e1, f1, h.dd e4.1 e4.2 h5⟩
theorem Sx.sameM (h : Sx W0 w0 col0 c d a b obs o1 o2 w) (i j : Nat) {g cap n m : Nat} {u : Sv} {L L' : List (Int × Sv)} {A : List KV} (hi : obs[i]? = some (oMo g cap L A n)) (hj : obs[j]? = some (oTo u L' A m)) (hA : AOk A) :
    Calls Try.prog 75 #[.slice (some ⟨g, 0, none⟩) A.length cap, .slice u.a A.length u.c] w fun e w' => e = .returned (.bool true) ∧ Hid (Sx W0 w0 col0 c d a b obs o1 o2 w') := by
  obtain ⟨col, h⟩ := h
  obtain ⟨SA, hA1, e1⟩ := Mo.wp (h.get i hi) hA
  obtain ⟨SB, hB1, e2⟩ := To.wp (h.get j hj) hA
  refine (same75 w _ _ SA SB hA1 hB1 (e1.trans e2.symm) (by have := congrArg List.length e1; rw [List.length_map] at this; have := hA.1; omega)).mono ?_
  rintro e w' ⟨e1, k⟩
  exact ⟨e1, h.nu k⟩
theorem Sx.moAt (h : Sx W0 w0 col0 c d a b obs o1 o2 w) (i : Nat) {g cap n : Nat} {L : List (Int × Sv)} {A : List KV} (hi : obs[i]? = some (oMo g cap L A n)) (j : Nat) (hj : j < A.length) : ∃ v : Sv, w.cell? ⟨g, j * 2 + 1, none⟩ = some (.slice v.a v.n v.c) ∧ ∃ ys, Rm w 0 v ys ∧ ∃ k, (k, ys) ∈ A := by
  obtain ⟨col, h⟩ := h
  obtain ⟨p, e1, e2, e3, e4, e5⟩ := Mo.at_ (h.get i hi) (List.getElem?_eq_getElem hj)
  exact ⟨p.2, e5, _, e3, _, List.getElem_mem hj⟩
theorem Sx.moLast (h : Sx W0 w0 col0 c d a b obs o1 o2 w) (i : Nat) {g cap n : Nat} {L : List (Int × Sv)} {A : List KV} (hi : obs[i]? = some (oMo g cap L A n)) : w.cell? ⟨g, A.length * 2, none⟩ = some (.int .u64 4713) := by
  obtain ⟨col, h⟩ := h
  exact Mo.last (h.get i hi)
theorem Sx.moCap (h : Sx W0 w0 col0 c d a b obs o1 o2 w) (i : Nat) {g cap n : Nat} {L : List (Int × Sv)} {A : List KV} (hi : obs[i]? = some (oMo g cap L A n)) : A.length + 1 ≤ cap := by
  obtain ⟨col, h⟩ := h
  have h1 := (Mo.own (h.get i hi)).2
  rcases h1 with ⟨e, h0⟩ | ⟨g', cap', cur, ev, hb', hg, q1, _⟩
  · cases e
  · cases ev; exact q1
theorem Sx.spoilMo (h : Sx W0 w0 col0 c d a b obs o1 o2 w) (i : Nat) {g cap n : Nat} {L : List (Int × Sv)} {A : List KV} (hi : obs[i]? = some (oMo g cap L A n)) (hn : 5 ≤ n) (hA : AOk A) :
    Calls Try.prog 188 #[.slice (some ⟨g, 0, none⟩) (A.length + 1) cap] w fun e w' => e = .returned (.bool true) ∧ Hid (Sx W0 w0 col0 c d a b [] o1 o2 w') := by
  obtain ⟨col, h⟩ := h
  have hm : Mo g cap L A w (Co col n) := h.get i hi
  have hl := hm.f.length
  have hat : ∀ (q : Nat) (p : Int × Sv), (L ++ [(4713, ⟨none, 0, 0⟩)])[q]? = some p → (∃ m, L[q]? = some p ∧ A[q]? = some m ∧ Rm w 0 p.2 m.2) ∨ (q = L.length ∧ p = (4713, ⟨none, 0, 0⟩)) := fun q p hp => by
    by_cases hq : q < L.length
    · rw [List.getElem?_append_left hq] at hp
      obtain ⟨m, e2, hf⟩ := hm.f.at hp
      exact .inl ⟨m, hp, e2, hf.2⟩
    · rw [List.getElem?_append_right (by omega)] at hp
      obtain ⟨h1, h2⟩ := List.getElem?_eq_some_iff.1 hp
      simp only [List.length_singleton] at h1
      have : q = L.length := by omega
      subst this
      refine .inr ⟨rfl, ?_⟩
      simp at h2
      exact h2.symm
  have hv : Rws w (L ++ [(4713, ⟨none, 0, 0⟩)]) (fun q => cs ((A[q]?.map Prod.snd).getD [])) := fun q p hp => by
    rcases hat q p hp with ⟨m, e1, e2, hf⟩ | ⟨e1, e2⟩
    · simp only [e2, Option.map_some, Option.getD_some]
      exact hf.own
    · subst e1 e2
      have : A[L.length]? = none := List.getElem?_eq_none (by omega)
      simp only [this, Option.map_none, Option.getD_none]
      exact ⟨rfl, .inl ⟨rfl, rfl⟩⟩
  have hap : Apt (L ++ [(4713, ⟨none, 0, 0⟩)]) := apt_of (List.pairwise_append.2 ⟨hm.ap, List.pairwise_singleton _ _, fun p hp q hq g hg hg2 => by
    rw [List.mem_singleton.1 hq] at hg2; cases hg2⟩)
  have hby : ∀ p ∈ L ++ [(4713, ⟨none, 0, 0⟩)], p.2.n ≤ 140737488355200 := fun p hp => by
    obtain ⟨q, hq⟩ := List.mem_iff_getElem?.1 hp
    rcases hat q p hq with ⟨m, e1, e2, hf⟩ | ⟨e1, e2⟩
    · have := hf.1; have := (hA.2 m (List.mem_of_getElem? e2)).2.2.2; omega
    · subst e2; exact Nat.zero_le _
  refine (spoilPairs188 (u := ⟨some ⟨g, 0, none⟩, A.length + 1, cap⟩) (C0 := fun q => cs ((A[q]?.map Prod.snd).getD [])) hm.own hv hap hby (by have := hA.1; dsimp only; omega)).mono ?_
  rintro e w' ⟨e1, k⟩
  refine ⟨e1, (h.take 0).t n hn (Kg.of k (fun j hj hs => ?_)) alln_0⟩
  rcases hs with hs | ⟨p, hp, hs⟩
  · have hs2 : g = j := by simpa [sl, Value.ownBlock] using hs
    rw [← hs2]
    exact ⟨hm.gg, not211 hm.own (by decide) rfl⟩
  · obtain ⟨q, hq⟩ := List.mem_iff_getElem?.1 hp
    rcases hat q p hq with ⟨m, e1, e2, hf⟩ | ⟨e1, e2⟩
    · exact ⟨hm.gv p (List.mem_of_getElem? e1) j hs, not211 hf.own (by decide) hs⟩
    · subst e2; cases hs
end
end Go.Proofs.Ytchealdgncgjoaa.StU
