import Derived.Test.YtchealdgncgjoaaMrK
namespace Go.Proofs.Ytchealdgncgjoaa.StM
open Go.RowKit Go.Proofs.Ytchealdgncgjoaa.St Go.Shelf Go.Sort Go.Proofs.Ytchealdgncgjoaa.It Go.Proofs.Ytchealdgncgjoaa.StI
set_option linter.unusedVariables false
set_option linter.unusedSimpArgs false
/-- rows of one's own, of any kind of element -/
theorem ty_low {V : World} {ty : TypeId} {B : Nat} {n : Nat} {l : List Value} {v : Value} (h : V.ownsRow B ty 1 v n l) {g : Nat} (hg : v.ownBlock = some g) : B ≤ g := by
  rcases h.2 with ⟨rfl, h0⟩ | ⟨g', cap, cur, rfl, hb', hg', _⟩
  · cases hg
  · simp [Value.ownBlock] at hg; subst hg; exact hb'
theorem ty_set {w : World} {ty : TypeId} {B n i : Nat} {r cap : Nat} {l : List Value} (h : w.ownsRow B ty 1 (.slice (some ⟨r, 0, none⟩) n cap) n l) (u : Value) : (w.setCell ⟨r, i, none⟩ u).ownsRow B ty 1 (.slice (some ⟨r, 0, none⟩) n cap) n (l.set i u) := by
  refine ⟨by simpa using h.1, ?_⟩
  rcases h.2 with ⟨e, h0⟩ | ⟨g, cap', cur, e, hb, hg, h1, h2, h3, h4⟩
  · cases e
  · cases e
    refine .inr ⟨r, cap, cur.setIfInBounds i u, rfl, hb, set3 hg i u, h1, h2, by simpa using h3, ?_⟩
    rw [Array.toList_setIfInBounds, ← h4, List.take_set]
theorem ty_at {w : World} {ty : TypeId} {B : Nat} {v : Value} {n i : Nat} {l : List Value} {u : Value} (h : w.ownsRow B ty 1 v n l) (hn : l.length = n) (hi : l[i]? = some u) : ∃ r cap, v = .slice (some ⟨r, 0, none⟩) n cap ∧ w.cell? ⟨r, i, none⟩ = some u := by
  have hlt : i < l.length := (List.getElem?_eq_some_iff.1 hi).1
  rcases h.2 with ⟨_, h0⟩ | ⟨r, cap, cur, e, hB, hg, h1, h2, h3, h4⟩
  · omega
  · refine ⟨r, cap, e, ?_⟩
    have e1 : cur.toList[i]? = some u := by
      rw [← h4, List.getElem?_take_of_lt (by omega)] at hi
      exact hi
    simpa [World.cell?, hg] using e1
/-- a map of the program's and the document's, and where they lie -/
structure Sl where
  mb : Nat
  rb : Nat
  vk : Value
  vv : Value
  t : T (Int × Int)
abbrev pm (s : Sl) : Value := .pointer (some ⟨s.mb, 0, none⟩)
abbrev pr (s : Sl) : Value := .pointer (some ⟨s.rb, 0, none⟩)
/-- two of them apart -/
def Ap (s u : Sl) : Prop := s.mb ≠ u.mb ∧ s.rb ≠ u.rb ∧ ∀ g, s.vv.ownBlock = some g → u.vk.ownBlock ≠ some g ∧ u.vv.ownBlock ≠ some g
structure Ma (bw : Nat) (wh : Int) (B n : Nat) (W : World) (L : List Sl) : Prop where
  ok : ∀ (i : Nat) (s : Sl), L[i]? = some s → Mq bw wh B W s.mb s.rb s.vk s.vv s.t ∧ s.t.sz ≤ n ∧ B ≤ s.mb ∧ B ≤ s.rb
  ap : ∀ (i j : Nat) (s u : Sl), L[i]? = some s → L[j]? = some u → i ≠ j → Ap s u
section
variable {bw : Nat} {wh : Int} {B n : Nat} {W Z : World} {L : List Sl} {P : Nat → Prop}
theorem Mq.keep {mb rb : Nat} {vk vv : Value} {t : T (Int × Int)} (h : Mq bw wh B W mb rb vk vv t) (k : Kp P W Z) (h1 : ¬ P mb) (h2 : ¬ P rb) (h3 : ∀ g, vk.ownBlock = some g ∨ vv.ownBlock = some g → ¬ P g) (h4 : ¬ P bw) (h5 : ∀ b c, W.heap[b]? = some (.cells c 136 (0, 0)) → ¬ P b) : Mq bw wh B Z mb rb vk vv t := by
  obtain ⟨a, e1, e2⟩ := h.m.ex
  exact ⟨⟨⟨a, (k.block _ (blk_lt e1) h1).trans e1, e2.keep (Kn.of k h5)⟩, h.m.bal, h.m.srt, (k.block _ (blk_lt h.m.bx.1) h4).trans h.m.bx.1, h.m.bx.2⟩,
    ⟨(k.block _ (blk_lt h.r.blk) h2).trans h.r.blk, ow_k h.r.ok k (fun g e => h3 g (.inl e)), ow_k h.r.ov k (fun g e => h3 g (.inr e)), h.r.apart⟩, h.hb, Nat.le_trans h.hB k.size⟩
/-- a block of a kind that no map has -/
theorem Mq.kind {mb rb : Nat} {vk vv : Value} {t : T (Int × Int)} (h : Mq bw wh B W mb rb vk vv t) (k : Kp P W Z) (hP : ∀ g, P g → ∃ c ty p, W.heap[g]? = some (.cells c ty p) ∧ ty ≠ 130 ∧ ty ≠ 52 ∧ ty ≠ 3 ∧ ty ≠ 136) : Mq bw wh B Z mb rb vk vv t := by
  obtain ⟨a, e1, e2⟩ := h.m.ex
  have hn : ∀ g c ty p, W.heap[g]? = some (.cells c ty p) → (ty = 130 ∨ ty = 52 ∨ ty = 3 ∨ ty = 136) → ¬ P g := fun g c ty p hg ht e => by
    obtain ⟨c', ty', p', hg', n1, n2, n3, n4⟩ := hP g e
    rw [hg] at hg'
    cases hg'
    rcases ht with e | e | e | e <;> contradiction
  refine h.keep k (hn _ _ _ _ e1 (.inl rfl)) (hn _ _ _ _ h.r.blk (.inr (.inl rfl))) (fun g e => ?_) (hn _ _ _ _ h.m.bx.1 (.inr (.inr (.inl rfl)))) (fun b c hb => hn _ _ _ _ hb (.inr (.inr (.inr rfl))))
  rcases e with e | e
  · obtain ⟨cur, hc⟩ := own_obj h.r.ok e
    exact hn _ _ _ _ hc (.inr (.inr (.inl rfl)))
  · obtain ⟨cur, hc⟩ := own_obj h.r.ov e
    exact hn _ _ _ _ hc (.inr (.inr (.inl rfl)))
/-- a map stays while another one changes -/
theorem Mq.other {s u : Sl} (h : Mq bw wh B W u.mb u.rb u.vk u.vv u.t) (hs : Mq bw wh B W s.mb s.rb s.vk s.vv s.t) (a : Ap s u) (k : Kp (fun i => i = s.mb ∨ i = s.rb ∨ s.vv.ownBlock = some i) W Z) : Mq bw wh B Z u.mb u.rb u.vk u.vv u.t := by
  obtain ⟨p, e1, e2⟩ := h.m.ex
  obtain ⟨q, f1, f2⟩ := hs.m.ex
  have ne : ∀ (g : Nat) c ty (q : Nat × Nat) c' ty' (q' : Nat × Nat) (g' : Nat), W.heap[g]? = some (.cells c ty q) → W.heap[g']? = some (.cells c' ty' q') → ty ≠ ty' → g ≠ g' := fun g c ty q c' ty' q' g' x y n e => by
    rw [e, y] at x
    cases x
    exact n rfl
  have nv : ∀ (g : Nat) c ty (q : Nat × Nat), W.heap[g]? = some (.cells c ty q) → ty ≠ 3 → s.vv.ownBlock ≠ some g := fun g c ty q x n e => by
    obtain ⟨cur, hc⟩ := own_obj hs.r.ov e
    exact ne g c ty q _ _ _ g x hc n rfl
  refine h.keep k (fun e => ?_) (fun e => ?_) (fun g hg e => ?_) (fun e => ?_) (fun b c hb e => ?_)
  · rcases e with e | e | e
    · exact a.1 e.symm
    · exact ne _ _ _ _ _ _ _ _ e1 hs.r.blk (by decide) e
    · exact nv _ _ _ _ e1 (by decide) e
  · rcases e with e | e | e
    · exact ne _ _ _ _ _ _ _ _ h.r.blk f1 (by decide) e
    · exact a.2.1 e.symm
    · exact nv _ _ _ _ h.r.blk (by decide) e
  · obtain ⟨cur, hc⟩ : ∃ cur, W.heap[g]? = some (.cells cur 3 (0, 0)) := by
      rcases hg with hg | hg
      · exact own_obj h.r.ok hg
      · exact own_obj h.r.ov hg
    rcases e with e | e | e
    · exact ne _ _ _ _ _ _ _ _ hc f1 (by decide) e
    · exact ne _ _ _ _ _ _ _ _ hc hs.r.blk (by decide) e
    · obtain ⟨x, y⟩ := a.2.2 g e
      exact hg.elim x y
  · rcases e with e | e | e
    · exact ne _ _ _ _ _ _ _ _ hs.m.bx.1 f1 (by decide) e
    · exact ne _ _ _ _ _ _ _ _ hs.m.bx.1 hs.r.blk (by decide) e
    · have := own_low hs.r.ov e
      have := h.hb
      omega
  · rcases e with e | e | e
    · exact ne _ _ _ _ _ _ _ _ hb f1 (by decide) e
    · exact ne _ _ _ _ _ _ _ _ hb hs.r.blk (by decide) e
    · exact nv _ _ _ _ hb (by decide) e
theorem Ma.nu (h : Ma bw wh B n W L) (k : Kp Nu W Z) : Ma bw wh B n Z L :=
  ⟨fun i s hi => ⟨(h.ok i s hi).1.nu k, (h.ok i s hi).2⟩, h.ap⟩
theorem Ma.kind (h : Ma bw wh B n W L) (k : Kp P W Z) (hP : ∀ g, P g → ∃ c ty p, W.heap[g]? = some (.cells c ty p) ∧ ty ≠ 130 ∧ ty ≠ 52 ∧ ty ≠ 3 ∧ ty ≠ 136) : Ma bw wh B n Z L :=
  ⟨fun i s hi => ⟨(h.ok i s hi).1.kind k hP, (h.ok i s hi).2⟩, h.ap⟩
theorem Ma.mono {m : Nat} (h : Ma bw wh B n W L) (hm : n ≤ m) : Ma bw wh B m W L :=
  ⟨fun i s hi => ⟨(h.ok i s hi).1, Nat.le_trans (h.ok i s hi).2.1 hm, (h.ok i s hi).2.2⟩, h.ap⟩
theorem at_app {α : Type} {L : List α} {s u : α} {j : Nat} (h : (L ++ [s])[j]? = some u) : (j < L.length ∧ L[j]? = some u) ∨ (j = L.length ∧ s = u) := by
  rcases Nat.lt_or_ge j L.length with c | c
  · exact .inl ⟨c, by rwa [List.getElem?_append_left c] at h⟩
  · rw [List.getElem?_append_right c] at h
    have hj : j - L.length = 0 := by
      have := (List.getElem?_eq_some_iff.1 h).1
      simp at this
      omega
    rw [hj] at h
    exact .inr ⟨by omega, by simpa using h⟩
theorem at_set {α : Type} {L : List α} {s u : α} {d j : Nat} (h : (L.set d s)[j]? = some u) : (d ≠ j ∧ L[j]? = some u) ∨ (d = j ∧ s = u) := by
  rcases Nat.decEq d j with c | c
  · exact .inl ⟨c, by rwa [List.getElem?_set_ne c] at h⟩
  · subst c
    have hlt := (List.getElem?_eq_some_iff.1 h).1
    rw [List.length_set] at hlt
    rw [List.getElem?_set_self hlt] at h
    exact .inr ⟨rfl, by simpa using h⟩
/-- a step at one of the maps -/
theorem Ma.step {i : Nat} {s : Sl} (h : Ma bw wh B n W L) (hi : L[i]? = some s) (q : Sq bw wh B W s.mb s.rb s.vk s.vv s.t Z) : ∃ s' : Sl, s'.mb = s.mb ∧ s'.rb = s.rb ∧ Ma bw wh B (n + 1) Z (L.set i s') := by
  obtain ⟨vk', vv', t', hm, hsz, o1, o2⟩ := q.ex
  have hs := h.ok i s hi
  refine ⟨⟨s.mb, s.rb, vk', vv', t'⟩, rfl, rfl, ⟨fun j u hj => ?_, fun j l u x hj hl hjl => ?_⟩⟩
  · rcases Nat.decEq i j with e | e
    · rw [List.getElem?_set_ne e] at hj
      have hu := h.ok j u hj
      exact ⟨hu.1.other hs.1 (h.ap i j s u hi hj e) q.kp, by omega, hu.2.2⟩
    · subst e
      rw [List.getElem?_set_self (List.getElem?_eq_some_iff.1 hi).1] at hj
      cases hj
      exact ⟨hm, by have := hs.2.1; show t'.sz ≤ n + 1; omega, hs.2.2⟩
  · have old : ∀ (y : Sl) (k : Nat), L[k]? = some y → ∀ g, y.vk.ownBlock = some g ∨ y.vv.ownBlock = some g → g < W.heap.size := fun y k hk g e => e.elim (fun e => own_lt (h.ok k y hk).1.r.ok e) (fun e => own_lt (h.ok k y hk).1.r.ov e)
    rcases Nat.decEq i j with e | e
    · rw [List.getElem?_set_ne e] at hj
      rcases Nat.decEq i l with e2 | e2
      · rw [List.getElem?_set_ne e2] at hl
        exact h.ap j l u x hj hl hjl
      · subst e2
        rw [List.getElem?_set_self (List.getElem?_eq_some_iff.1 hi).1] at hl
        cases hl
        have a := h.ap j i u s hj hi hjl
        have b := h.ap i j s u hi hj e
        refine ⟨a.1, a.2.1, fun g hg => ⟨fun e3 => ?_, fun e3 => ?_⟩⟩
        · have := old u j hj g (.inr hg)
          rcases o1 g e3 with e4 | e4
          · exact (a.2.2 g hg).1 e4
          · omega
        · have := old u j hj g (.inr hg)
          rcases o2 g e3 with e4 | e4
          · exact (a.2.2 g hg).2 e4
          · omega
    · subst e
      rw [List.getElem?_set_self (List.getElem?_eq_some_iff.1 hi).1] at hj
      cases hj
      rw [List.getElem?_set_ne hjl] at hl
      have b := h.ap i l s x hi hl hjl
      refine ⟨b.1, b.2.1, fun g hg => ⟨fun e3 => ?_, fun e3 => ?_⟩⟩
      · have := old x l hl g (.inl e3)
        rcases o2 g hg with e4 | e4
        · exact (b.2.2 g e4).1 e3
        · omega
      · have := old x l hl g (.inr e3)
        rcases o2 g hg with e4 | e4
        · exact (b.2.2 g e4).2 e3
        · omega
/-- one more map, or one in another's place -/
theorem Ma.add {s : Sl} {W0 : World} (h : Ma bw wh B n W L) (h0 : Ma bw wh B n W0 L) (hs : Mq bw wh B W s.mb s.rb s.vk s.vv s.t ∧ s.t.sz ≤ n ∧ B ≤ s.mb ∧ B ≤ s.rb) (h1 : W0.heap.size ≤ s.mb) (h2 : W0.heap.size ≤ s.rb) (h3 : ∀ g, s.vk.ownBlock = some g ∨ s.vv.ownBlock = some g → W0.heap.size ≤ g) :
    Ma bw wh B n W (L ++ [s]) ∧ ∀ d, Ma bw wh B n W (L.set d s) := by
  have old : ∀ (y : Sl) (k : Nat), L[k]? = some y → y.mb < W0.heap.size ∧ y.rb < W0.heap.size ∧ ∀ g, y.vk.ownBlock = some g ∨ y.vv.ownBlock = some g → g < W0.heap.size := fun y k hk => by
    have hq := (h0.ok k y hk).1
    exact ⟨hq.m.lt, blk_lt hq.r.blk, fun g e => e.elim (fun e => own_lt hq.r.ok e) (fun e => own_lt hq.r.ov e)⟩
  have a1 : ∀ (y : Sl) (k : Nat), L[k]? = some y → Ap y s := fun y k hk => by
    obtain ⟨x1, x2, x3⟩ := old y k hk
    exact ⟨by omega, by omega, fun g hg => ⟨fun e => by have := x3 g (.inr hg); have := h3 g (.inl e); omega, fun e => by have := x3 g (.inr hg); have := h3 g (.inr e); omega⟩⟩
  have a2 : ∀ (y : Sl) (k : Nat), L[k]? = some y → Ap s y := fun y k hk => by
    obtain ⟨x1, x2, x3⟩ := old y k hk
    exact ⟨by omega, by omega, fun g hg => ⟨fun e => by have := x3 g (.inl e); have := h3 g (.inr hg); omega, fun e => by have := x3 g (.inr e); have := h3 g (.inr hg); omega⟩⟩
  refine ⟨⟨fun j u hj => ?_, fun j l u x hj hl hjl => ?_⟩, fun d => ⟨fun j u hj => ?_, fun j l u x hj hl hjl => ?_⟩⟩
  · rcases at_app hj with ⟨_, e⟩ | ⟨_, rfl⟩
    · exact h.ok j u e
    · exact hs
  · rcases at_app hj with ⟨g1, e⟩ | ⟨g1, rfl⟩
    · rcases at_app hl with ⟨g2, e2⟩ | ⟨g2, rfl⟩
      · exact h.ap j l u x e e2 hjl
      · exact a1 u j e
    · rcases at_app hl with ⟨g2, e2⟩ | ⟨g2, rfl⟩
      · exact a2 x l e2
      · omega
  · rcases at_set hj with ⟨_, e⟩ | ⟨_, rfl⟩
    · exact h.ok j u e
    · exact hs
  · rcases at_set hj with ⟨g1, e⟩ | ⟨g1, rfl⟩
    · rcases at_set hl with ⟨g2, e2⟩ | ⟨g2, rfl⟩
      · exact h.ap j l u x e e2 hjl
      · exact a1 u j e
    · rcases at_set hl with ⟨g2, e2⟩ | ⟨g2, rfl⟩
      · exact a2 x l e2
      · omega
end
end Go.Proofs.Ytchealdgncgjoaa.StM
