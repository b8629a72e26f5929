import Derived.Test.YtbifmcadllilhaaGreatPmV
import Derived.Test.YtbifmcadllilhaaGreatPmT
import Derived.Test.YtbifmcadllilhaaGreatPmK
namespace Go.Proofs.YtbifmcadllilhaaGreat.Rg
set_option linter.unusedVariables false
/-- two lists that agree place by place -/
def F2 {α β : Type} (R : α → β → Prop) : List α → List β → Prop
  | [], [] => True
  | a :: x, b :: y => R a b ∧ F2 R x y
  | _, _ => False
theorem F2.len {α β : Type} {R : α → β → Prop} : ∀ {x : List α} {y : List β}, F2 R x y → x.length = y.length
  | [], [], _ => rfl
  | a :: x, b :: y, h => by simp [F2.len h.2]
  | [], b :: y, h => h.elim
  | a :: x, [], h => h.elim
theorem F2.snoc {α β : Type} {R : α → β → Prop} : ∀ {x : List α} {y : List β} {a : α} {b : β}, F2 R x y → R a b → F2 R (x ++ [a]) (y ++ [b])
  | [], [], a, b, _, h => ⟨h, trivial⟩
  | c :: x, d :: y, a, b, h, h2 => ⟨h.1, F2.snoc h.2 h2⟩
  | [], d :: y, a, b, h, _ => h.elim
  | c :: x, [], a, b, h, _ => h.elim
theorem F2.last {α β : Type} {R : α → β → Prop} : ∀ {x : List α} {y : List β} {b : β}, F2 R x (y ++ [b]) → ∃ x0 a, x = x0 ++ [a] ∧ F2 R x0 y ∧ R a b
  | [], [], b, h => h.elim
  | [c], [], b, h => ⟨[], c, rfl, trivial, h.1⟩
  | c :: c' :: x, [], b, h => h.2.elim
  | [], d :: y, b, h => h.elim
  | c :: x, d :: y, b, h => by
    obtain ⟨x0, a, e, h1, h2⟩ := F2.last (x := x) (y := y) (b := b) h.2
    subst e
    exact ⟨c :: x0, a, rfl, ⟨h.1, h1⟩, h2⟩
theorem F2.filter {α β : Type} {R : α → β → Prop} {p : α → Bool} {q : β → Bool} (hpq : ∀ a b, R a b → p a = q b) : ∀ {x : List α} {y : List β}, F2 R x y → F2 R (x.filter p) (y.filter q)
  | [], [], _ => trivial
  | a :: x, b :: y, h => by
    have e := hpq a b h.1
    rw [List.filter_cons, List.filter_cons, ← e]
    split
    · exact ⟨h.1, F2.filter hpq h.2⟩
    · exact F2.filter hpq h.2
  | [], b :: y, h => h.elim
  | a :: x, [], h => h.elim
/-- a stretch in memory is a stretch of a pile -/
structure PS (w : World) (ks : List Int) (s : St) (p : Pc) : Prop where
  sg : s.sg = p.s
  n : s.n = p.c
  us : Us w (.slice s.a s.n s.c) ((ks.drop p.a).take p.c)
theorem f2_pk {w : World} {K : List Int} : ∀ (L : List Sg) (l : List St) (off : Nat), l.map (·.sg) = L → l.map (·.n) = dl L (K.drop off) → (∀ (i : Nat) s q, l[i]? = some s → (kd L (K.drop off))[i]? = some q → Us w (.slice s.a s.n s.c) q) → F2 (PS w K) l (pk L (K.drop off) off)
  | [], [], off, _, _, _ => trivial
  | [], s :: l, off, h, _, _ => by simp at h
  | g :: L, [], off, h, _, _ => by simp at h
  | g :: L, s :: l, off, h, hn, hk => by
    simp only [List.map_cons, List.cons.injEq] at h
    simp only [List.map_cons, dl, List.cons.injEq] at hn
    refine ⟨⟨h.1, hn.1, hk 0 s _ (by simp) (by simp [kd])⟩, ?_⟩
    have e : (K.drop off).drop (wth (K.drop off) g.hi) = K.drop (off + wth (K.drop off) g.hi) := by rw [List.drop_drop]
    rw [e]
    rw [e] at hn
    refine f2_pk L l _ h.2 hn.2 (fun i s' q hs hq => ?_)
    refine hk (i + 1) s' q (by rw [List.getElem?_cons_succ]; exact hs) ?_
    rw [kd, List.getElem?_cons_succ, e]
    exact hq
theorem f2_plh {w : World} {K : List Int} {L : List Sg} {l : List St} (h : l.map (·.sg) = L) (hD : Dlt w l L K) (h' : Nat) : F2 (PS w K) (hst l h') (plh L K h') := by
  have f := f2_pk (w := w) (K := K) L l 0 h (by rw [List.drop_zero]; exact hD.n) (by rw [List.drop_zero]; exact hD.ky)
  rw [List.drop_zero] at f
  unfold hst plh
  exact F2.filter (fun a b r => by rw [r.sg, r.n]) f
/-- piles in memory are piles -/
structure Rel (w : World) (ks : List Int) (ls : List (List St)) (P : List (List Pc)) : Prop where
  len : ls.length = P.length
  ea : ∀ (h : Nat) l Q, ls[h]? = some l → P[h]? = some Q → F2 (PS w ks) l Q
theorem rel_init {w : World} {K : List Int} {L : List Sg} {l : List St} (h : l.map (·.sg) = L) (hD : Dlt w l L K) (N : Nat) : Rel w K ((List.range N).map (hst l)) ((List.range N).map (plh L K)) := by
  refine ⟨by simp, fun i x y hx hy => ?_⟩
  have hi : i < N := by
    have := (List.getElem?_eq_some_iff.1 hx).1
    simpa using this
  rw [List.getElem?_map, List.getElem?_range hi] at hx hy
  cases hx
  cases hy
  exact f2_plh h hD i
theorem Rel.set {w : World} {ks : List Int} {ls : List (List St)} {P : List (List Pc)} (h : Rel w ks ls P) (g : Nat) {t : List St} {Q : List Pc} (ht : F2 (PS w ks) t Q) : Rel w ks (ls.set g t) (P.set g Q) := by
  refine ⟨by rw [List.length_set, List.length_set]; exact h.len, fun i x y hx hy => ?_⟩
  by_cases e : g = i
  · subst e
    rw [List.getElem?_set_self (by have := (List.getElem?_eq_some_iff.1 hx).1; rw [List.length_set] at this; exact this)] at hx
    rw [List.getElem?_set_self (by have := (List.getElem?_eq_some_iff.1 hy).1; rw [List.length_set] at this; exact this)] at hy
    cases hx
    cases hy
    exact ht
  · rw [List.getElem?_set_ne e] at hx hy
    exact h.ea i x y hx hy
/-- the top of a host's pile in memory -/
theorem Rel.top {w : World} {ks : List Int} {ls : List (List St)} {P : List (List Pc)} (h : Rel w ks ls P) {g : Nat} {P0 : List Pc} {p : Pc} (hg : P[g]? = some (P0 ++ [p])) : ∃ l s, ls[g]? = some (l ++ [s]) ∧ F2 (PS w ks) l P0 ∧ PS w ks s p := by
  obtain ⟨l, hl⟩ : ∃ l, ls[g]? = some l := ⟨_, List.getElem?_eq_getElem (by rw [h.len]; exact (List.getElem?_eq_some_iff.1 hg).1)⟩
  obtain ⟨x0, a, e, h1, h2⟩ := (h.ea g l _ hl hg).last
  subst e
  exact ⟨x0, a, hl, h1, h2⟩
theorem Tko.step {w : World} {ks : List Int} {l : List St} {s : St} {P0 : List Pc} {p : Pc} {n : Nat} {lo : Int} {m : Nat} {t : List St} (hT : Tko l s ((ks.drop p.a).take p.c) (n : Int) lo m t) (hf : F2 (PS w ks) l P0) (ps : PS w ks s p) :
    ∃ Q, F2 (PS w ks) t Q ∧ ((p.c ≤ n ∧ (m : Int) = (p.c : Int) ∧ lo = p.s.lo ∧ Q = P0) ∨ (n < p.c ∧ (m : Int) = (n : Int) ∧ ks[p.a + p.c - n]? = some lo ∧ Q = P0 ++ [⟨⟨p.s.lo, lo - 1, p.s.h⟩, p.a, p.c - n⟩])) := by
  have e1 := ps.n
  rcases hT with ⟨c1, c2, c3, c4⟩ | ⟨c1, c2, c3, c4⟩
  · subst c4
    exact ⟨P0, hf, .inl ⟨by omega, by omega, by rw [c3, ps.sg], rfl⟩⟩
  · have em : m = n := by omega
    subst em
    refine ⟨_, ?_, .inr ⟨by omega, rfl, ?_, rfl⟩⟩
    · rw [c4]
      refine hf.snoc ⟨by rw [ps.sg], by show s.n - m = p.c - m; omega, ?_⟩
      obtain ⟨a, cap, h0, h2, h1⟩ := ps.us
      simp only [Value.slice.injEq] at h0
      obtain ⟨ea, en, ec⟩ := h0
      have el : ((ks.drop p.a).take (p.c - m)).length = s.n - m := by
        rw [List.length_take] at en ⊢
        omega
      refine ⟨a, cap, by rw [el, ea, ec], by rw [el]; omega, fun j x hx => ?_⟩
      have hx2 : ((ks.drop p.a).take (p.c - m))[j]? = some x := hx
      rw [List.getElem?_take] at hx2
      split at hx2
      · refine h1 j x ?_
        rw [List.getElem?_take, if_pos (by omega)]
        exact hx2
      · cases hx2
    · rw [List.getElem?_take] at c3
      split at c3
      · rw [List.getElem?_drop] at c3
        rw [show p.a + p.c - m = p.a + (s.n - m) by omega]
        exact c3
      · cases c3
/-- a move leaves less to give -/
theorem Stp.less {ks : List Int} {L : List Sg} {σ σ' : Sig} {most : Int} {m : Mv} (hI : Inv ks L σ) (hr : Ris ks) (hk : ∀ x ∈ ks, 0 ≤ x ∧ x < 18446744073709551616) (hm : 1 ≤ most) (hs : Stp ks most σ m σ') : Pn.sp σ'.gv + 1 ≤ Pn.sp σ.gv := by
  have n1 := (hI.step hr hk hm hs).2.n1
  obtain ⟨g, k, x, y, P0, p, n, a1, a2, a3, a4, a5, a6, a7, a8, a9, a10, a11, a12⟩ := hs
  have x0 := gst_pos a1 a3
  have hd : m.n ≤ x := by
    rcases a10 with ⟨c1, c2, _⟩ | ⟨c1, c2, _⟩ <;> omega
  rw [a11, Pn.sp_set a3 x0 hd]
  omega
theorem one_sum (x : Int) : ∀ N : Nat, ((List.range N).map (fun h : Nat => if x = (h : Int) then (1 : Int) else 0)).sum = if 0 ≤ x ∧ x < (N : Int) then 1 else 0
  | 0 => by rw [if_neg (by omega)]; rfl
  | N + 1 => by
    rw [List.range_succ, List.map_append, List.sum_append, one_sum x N]
    simp only [List.map_cons, List.map_nil, List.sum_cons, List.sum_nil]
    repeat' split
    all_goals omega
theorem add_sum (f g : Nat → Int) : ∀ n, ((List.range n).map (fun h => f h + g h)).sum = ((List.range n).map f).sum + ((List.range n).map g).sum
  | 0 => by simp
  | n + 1 => by
    simp only [List.range_succ, List.map_append, List.sum_append, add_sum f g n, List.map_cons, List.map_nil, List.sum_cons, List.sum_nil]
    omega
theorem cnt_sum (N : Nat) : ∀ os : List Int, ((List.range N).map (Pn.cnt os)).sum ≤ (os.length : Int)
  | [] => by
    have e : (List.range N).map (Pn.cnt []) = (List.range N).map (fun _ => (0 : Int)) := List.map_congr_left (fun h _ => rfl)
    rw [e]
    have z : ∀ l : List Nat, (l.map (fun _ => (0 : Int))).sum = 0 := fun l => by
      induction l with
      | nil => rfl
      | cons a l ih => rw [List.map_cons, List.sum_cons, ih]; rfl
    rw [z]
    exact Int.le_refl 0
  | x :: os => by
    have e : (List.range N).map (Pn.cnt (x :: os)) = (List.range N).map (fun h => Pn.cnt os h + (if x = (h : Int) then 1 else 0)) := List.map_congr_left (fun h _ => by
      unfold Pn.cnt
      rw [List.filter_cons]
      by_cases c : x = (h : Int)
      · simp [c]
      · simp [c])
    rw [e, add_sum, one_sum]
    have := cnt_sum N os
    rw [List.length_cons]
    split <;> omega
theorem sp_le (c t : Nat → Int) (hc : ∀ h, 0 ≤ c h) (ht : ∀ h, 0 ≤ t h) : ∀ N : Nat, Pn.sp ((List.range N).map (fun h => c h - t h)) ≤ ((List.range N).map c).sum := by
  intro N
  have key : ∀ l : List Nat, Pn.sp (l.map (fun h => c h - t h)) ≤ (l.map c).sum := fun l => by
    induction l with
    | nil => simp [Pn.sp]
    | cons h l ih =>
      simp only [List.map_cons, Pn.sp, List.sum_cons]
      have := hc h
      have := ht h
      split <;> omega
  exact key _
theorem sp0 (N : Nat) (L : List Sg) (K : List Int) : Pn.sp (sg0 N L K).gv ≤ (K.length : Int) := by
  have h1 := sp_le (Pn.cnt (K.map (ow L))) (Pn.tgt (Pn.lds N (K.map (ow L)))) (fun h => (Pn.cnt_le _ h).1) (fun h => tgt_nonneg (lds_sum_nonneg N _) h) N
  have h2 := cnt_sum N (K.map (ow L))
  rw [List.length_map] at h2
  exact Int.le_trans h1 h2
theorem tgt_up {o : List Int} (h : 0 ≤ o.sum) (b : Nat) : Pn.tgt o b ≤ o.sum + 1 := by
  unfold Pn.tgt
  have := Int.ediv_le_self (o.length : Int) h
  split <;> omega
theorem sum_up {b : Int} (hb : 0 ≤ b) : ∀ {o : List Int}, (∀ x ∈ o, 0 ≤ x ∧ x ≤ b) → 0 ≤ o.sum ∧ o.sum ≤ (o.length : Int) * b
  | [], _ => by simp
  | x :: o, h => by
    have h1 := h x (by simp)
    have h2 := sum_up hb (o := o) (fun y hy => h y (by simp [hy]))
    have e : ((x :: o).length : Int) * b = (o.length : Int) * b + b := by
      rw [List.length_cons, Int.natCast_add, Int.add_mul]; simp
    rw [e, List.sum_cons]
    omega
end Go.Proofs.YtbifmcadllilhaaGreat.Rg
namespace Go.Proofs.YtbifmcadllilhaaGreat.Rg
open Go.RowKit Go.Shelf Go.Sort
set_option linter.unusedVariables false
set_option maxRecDepth 100000 in
set_option maxHeartbeats 1000000 in
theorem sameMoves18 (w : World) (u v : Value) (M : List Mv) (hu : Mvs w u M) (hv : Mvs w v M) (hN : M.length ≤ 5864062014634) : Calls Tryz.prog 21 #[u, v] w fun e w' => e = .returned (.bool true) ∧ Kp Nu w w' := by
  obtain ⟨a1, c1, e1, _⟩ := id hu
  obtain ⟨a2, c2, e2, _⟩ := id hv
  obtain ⟨N, eN⟩ : ∃ N, M.length = N := ⟨_, rfl⟩
  rw [eN] at e1 e2 hN
  subst e1 e2
  have HU := hide (And.intro hu (And.intro hv eN))
  have hNI : (N : Int) ≤ 5864062014634 := by omega
  have hnn : ((N : Int) != (N : Int)) = false := by simp
  clear hu hv eN hN
  go_enter Tryz.func21, Tryz.ntmps21
  go_wp2
  go_loopw [5] (fun iv wr => ∃ i : Nat, iv = .int .i64 (i : Int) ∧ i ≤ N ∧ Hid (Kp Nu w wr)) (fun iv _ => N - (intOf iv).toNat)
  case atStart => exact ⟨0, rfl, Nat.zero_le _, hide (Kp.refl _ _)⟩
  case round =>
    obtain ⟨i, rfl, hi, hk⟩ := hrel
    have hi0 : (0 : Int) ≤ (i : Int) := by omega
    by_cases hlt : i < N
    · have hltI : (i : Int) < (N : Int) := by omega
      obtain ⟨x, hx⟩ : ∃ x, M[i]? = some x := ⟨_, List.getElem?_eq_getElem (by rw [HU.out.2.2]; exact hlt)⟩
      obtain ⟨b1, o1, rfl, k1⟩ := (HU.out.1.nu hk.out).at_ hx
      obtain ⟨b2, o2, rfl, k2⟩ := (HU.out.2.1.nu hk.out).at_ hx
      obtain ⟨x0, x1, x2, x3, x4, _⟩ := k1
      obtain ⟨y0, y1, y2, y3, y4, _⟩ := k2
      have eti : (i : Int).toNat = i := by omega
      obtain ⟨q0, e0⟩ : ∃ q, x.f = q := ⟨_, rfl⟩
      obtain ⟨q1, e1⟩ : ∃ q, x.t = q := ⟨_, rfl⟩
      obtain ⟨q2, e2⟩ : ∃ q, x.lo = q := ⟨_, rfl⟩
      obtain ⟨q3, e3⟩ : ∃ q, x.hi = q := ⟨_, rfl⟩
      obtain ⟨q4, e4⟩ : ∃ q, x.n = q := ⟨_, rfl⟩
      rw [e0] at x0 y0
      rw [e1] at x1 y1
      rw [e2] at x2 y2
      rw [e3] at x3 y3
      rw [e4] at x4 y4
      clear hx e0 e1 e2 e3 e4
      go_wp2_with fail
      go_region
      go_wp2
      exact ⟨⟨i + 1, by go_num, by omega, hide (hk.out.drew)⟩, by simp [intOf]; omega⟩
    · have hge : ¬ (i : Int) < (N : Int) := by omega
      go_wp2
      go_ret
      exact ⟨rfl, hk.out⟩
end Go.Proofs.YtbifmcadllilhaaGreat.Rg
namespace Go.Proofs.YtbifmcadllilhaaGreat.Rg
open Go.RowKit Go.Shelf Go.Sort
set_option linter.unusedVariables false
theorem cell_five_at {w : World} {B : Nat} {a b c d f : Value} {t : TypeId} (h : w.heap[B]? = some (.cells #[a, b, c, d, f] t (0, 0))) : ∀ j u, [a, b, c, d, f][j]? = some u → w.cell? ((⟨B, 0, none⟩ : Addr).add j) = some u := by
  intro j u hj
  rw [Addr.add_lit, Nat.zero_add]
  match j, hj with
  | 0, hj => simp at hj; subst hj; simp [World.cell?, h]
  | 1, hj => simp at hj; subst hj; simp [World.cell?, h]
  | 2, hj => simp at hj; subst hj; simp [World.cell?, h]
  | 3, hj => simp at hj; subst hj; simp [World.cell?, h]
  | 4, hj => simp at hj; subst hj; simp [World.cell?, h]
  | j + 5, hj => simp at hj
/-- what Moves answers -/
def MoR (w' : World) (n : Int) (M : List Sg) (ks : List Int) (most : Int) (v : Value) (c : Int) : Prop :=
  (¬ ((1 ≤ n ∧ n ≤ 16) ∧ 1 ≤ most ∧ most ≤ 32) ∧ v = .slice none 0 0 ∧ c = 2) ∨ (((1 ≤ n ∧ n ≤ 16) ∧ 1 ≤ most ∧ most ≤ 32) ∧ ¬ LayB n M ks ∧ v = .slice none 0 0 ∧ c = 151) ∨
  (((1 ≤ n ∧ n ≤ 16) ∧ 1 ≤ most ∧ most ≤ 32) ∧ LayB n M ks ∧ c = 0 ∧ ∃ N : Nat, n = (N : Int) ∧ ∃ ms σ, Stps ks most (sg0 N (lays [] M) ks) ms σ ∧ Fin σ ∧ Mvs w' v ms ∧ ms.length ≤ 4096)
/-- two answers of one question -/
theorem mor_two {w1 w3 : World} {n most : Int} {M : List Sg} {ks : List Int} {v v' : Value} {c c' : Int} (h : MoR w1 n M ks most v c) (h' : MoR w3 n M ks most v' c') : c = c' ∧ ∃ ms : List Mv, ms.length ≤ 4096 ∧ Mvs w1 v ms ∧ Mvs w3 v' ms := by
  rcases h with ⟨a1, rfl, rfl⟩ | ⟨a1, a2, rfl, rfl⟩ | ⟨a1, a2, rfl, N, e1, ms, σ, a3, a4, a5, a6⟩
  · rcases h' with ⟨b1, rfl, rfl⟩ | ⟨b1, _⟩ | ⟨b1, _⟩
    · exact ⟨rfl, [], by simp, mvs_nil _, mvs_nil _⟩
    · exact absurd b1 a1
    · exact absurd b1 a1
  · rcases h' with ⟨b1, _⟩ | ⟨b1, b2, rfl, rfl⟩ | ⟨b1, b2, _⟩
    · exact absurd a1 b1
    · exact ⟨rfl, [], by simp, mvs_nil _, mvs_nil _⟩
    · exact absurd b2 a2
  · rcases h' with ⟨b1, _⟩ | ⟨b1, b2, _⟩ | ⟨b1, b2, rfl, N', e2, ms', σ', b3, b4, b5, b6⟩
    · exact absurd a1 b1
    · exact absurd a2 b2
    · have e3 : N = N' := by omega
      subst e3
      have e4 := a3.same b3 a4 b4
      subst e4
      exact ⟨rfl, ms, a6, a5, b5⟩
theorem Ris.take {o : List Int} (h : Ris o) (n : Nat) : Ris (o.take n) := fun i a b ha hb => by
  rw [List.getElem?_take] at ha hb
  split at ha
  · split at hb
    · exact h i a b ha hb
    · cases hb
  · cases ha
theorem Mvd.mvb {L : List Sg} {m : Mv} (h : Mvd L m) : MvB m := ⟨h.f0, by have := h.f1; omega, h.t0, by have := h.t1; omega, h.l0, by have := h.lh; have := h.h1; omega, by have := h.l0; have := h.lh; omega, h.h1⟩
theorem lsn_len (l : List Wt) (d : Int) : (lsn l d).length ≤ l.length := by
  unfold lsn
  split
  · rw [List.length_set]; exact Nat.le_refl _
  · rw [List.length_drop]; omega
/-- where the program's planning stands -/
structure MoI (w : World) (n : Nat) (L : List Sg) (ks : List Int) (most : Int) (pb B : Nat) (wr : World) (ms : List Mv) (v : Value) (σ : Sig) (L' : List Sg) (ls : List (List St)) (lg lt : List Wt) (pv gv tv : Value) (vs : List Value) : Prop where
  pla : Pla wr B pb ls lg lt pv gv tv vs
  wg : Wq lg σ.gv
  wt : Wq lt σ.tk
  hg : Hok lg lg.length
  ht : Hok lt lt.length
  lg16 : lg.length ≤ 16
  lt16 : lt.length ≤ 16
  rel : Rel w ks ls σ.P
  pil : ∀ (i : Nat) l, ls[i]? = some l → l.length ≤ 8192
  stp : Stps ks most (sg0 n L ks) ms σ
  inv : Inv ks L' σ
  bnd : (ms.length : Int) + Pn.sp σ.gv ≤ (ks.length : Int)
  fit : ∀ m ∈ ms, MvB m
  row : wr.ownsRow B 41 5 v ms.length (cellsMs ms)
  kp : Kp Nu w wr
  Bw : w.heap.size ≤ B
  Bpb : B ≤ pb
/-- the next move there -/
structure MoN (w : World) (ks : List Int) (most : Int) (ls : List (List St)) (lg lt : List Wt) (σ : Sig) (g k : Nat) (P0 : List Pc) (p : Pc) (l : List St) (s : St) : Prop where
  eg : (we lg 0).h = (g : Int)
  ek : (we lt 0).h = (k : Int)
  xg : σ.gv[g]? = some (we lg 0).p
  xk : σ.tk[k]? = some (we lt 0).p
  gg : Pn.Gst σ.gv (g : Int)
  gk : Pn.Gst σ.tk (k : Int)
  pg : σ.P[g]? = some (P0 ++ [p])
  lsg : ls[g]? = some (l ++ [s])
  f2 : F2 (PS w ks) l P0
  ps : PS w ks s p
  c1 : 1 ≤ p.c
  cl : p.a + p.c ≤ ks.length
  g16 : g < 16
  gp : 1 ≤ (we lg 0).p ∧ (we lg 0).p ≤ (ks.length : Int)
  tp : 1 ≤ (we lt 0).p ∧ (we lt 0).p ≤ (ks.length : Int)
  lt0 : 0 < lt.length
theorem MoI.next {w : World} {n : Nat} {L : List Sg} {ks : List Int} {most : Int} {pb B : Nat} {wr : World} {ms : List Mv} {v : Value} {σ : Sig} {L' : List Sg} {ls : List (List St)} {lg lt : List Wt} {pv gv tv : Value} {vs : List Value} (h : MoI w n L ks most pb B wr ms v σ L' ls lg lt pv gv tv vs) (h0 : 0 < lg.length) : ∃ g k P0 p l s, MoN w ks most ls lg lt σ g k P0 p l s := by
  obtain ⟨g, e1, e2, e3, e4⟩ := h.wg.best h.hg h0
  have sg := Pn.sp_ge e2 e3
  have hb := h.bnd
  have hlt : 0 < lt.length := by
    rcases Nat.eq_zero_or_pos lt.length with q | q
    · exfalso
      have e : lt = [] := List.eq_nil_of_length_eq_zero q
      have hw := h.wt
      rw [e] at hw
      have hz : Pn.sp σ.tk = 0 := Pn.sp_none (fun j y hy => by
        by_cases c : 0 < y
        · have := (hw.mem ⟨(j : Int), y⟩).2 ⟨j, rfl, hy, c⟩
          cases this
        · omega)
      have := h.inv.bal
      omega
    · exact q
  obtain ⟨k, f1, f2, f3, f4⟩ := h.wt.best h.ht hlt
  have sk := Pn.sp_ge f2 f3
  have hbal := h.inv.bal
  obtain ⟨P0, p, q1, q2, q3⟩ := h.inv.top e2 e3
  obtain ⟨l, s, r1, r2, r3⟩ := h.rel.top q1
  have hp := q2.each p (by simp)
  have hgl := (List.getElem?_eq_some_iff.1 e2).1
  have h16 := h.inv.n16
  exact ⟨g, k, P0, p, l, s, e1, f1, e2, f2, e4, f4, q1, r1, r2, r3, hp.c1, hp.le, by omega, by omega, by omega, hlt⟩
/-- behind a move -/
theorem MoI.step {w : World} {n : Nat} {L : List Sg} {ks : List Int} {most : Int} {pb B : Nat} {wr w' : World} {ms : List Mv} {v v' : Value} {σ : Sig} {L' : List Sg} {ls : List (List St)} {lg lt lg' lt' : List Wt} {pv gv tv gv' tv' : Value} {vs vs' : List Value} (h : MoI w n L ks most pb B wr ms v σ L' ls lg lt pv gv tv vs) {g k : Nat} {P0 : List Pc} {p : Pc} {l : List St} {s : St} (hN : MoN w ks most ls lg lt σ g k P0 p l s) (hr : Ris ks) (hk : ∀ x ∈ ks, 0 ≤ x ∧ x < 18446744073709551616) (hm : 1 ≤ most) (h0 : 0 < lg.length)
    {lo : Int} {m : Nat} {t : List St} (hT : Tko l s ((ks.drop p.a).take p.c) (min (min (we lg 0).p (we lt 0).p) most) lo m t) (pg : lg'.Perm (lsn lg (m : Int))) (hog : Hok lg' lg'.length) (pt : lt'.Perm (lsn lt (m : Int))) (hot : Hok lt' lt'.length) (hp : Pla w' B pb (ls.set g t) lg' lt' pv gv' tv' vs') (kp : Kp Nu w w')
    (hrow : w'.ownsRow B 41 5 v' (ms.length + 1) (cellsMs ms ++ [.int .u8 (we lg 0).h, .int .u8 (we lt 0).h, .int .u64 lo, .int .u64 s.sg.hi, .int .i64 (m : Int)])) :
    ∃ ms' σ' L'' ls', ms'.length = ms.length + 1 ∧ MoI w n L ks most pb B w' ms' v' σ' L'' ls' lg' lt' pv gv' tv' vs' := by
  obtain ⟨nn, en⟩ : ∃ nn : Nat, (nn : Int) = min (min (we lg 0).p (we lt 0).p) most := ⟨(min (min (we lg 0).p (we lt 0).p) most).toNat, by have := hN.gp; have := hN.tp; omega⟩
  rw [← en] at hT
  obtain ⟨Q, f, hc⟩ := hT.step hN.f2 hN.ps
  have gp := hN.gp
  have tp := hN.tp
  have hmb : (m : Int) ≤ (nn : Int) := by rcases hc with ⟨c1, c2, _⟩ | ⟨c1, c2, _⟩ <;> omega
  have st : Stp ks most σ ⟨(g : Int), (k : Int), lo, s.sg.hi, (m : Int)⟩ ⟨σ.P.set g Q, σ.gv.set g ((we lg 0).p - (m : Int)), σ.tk.set k ((we lt 0).p - (m : Int))⟩ := by
    refine ⟨g, k, _, _, P0, p, nn, hN.gg, hN.gk, hN.xg, hN.xk, hN.pg, en, rfl, rfl, by show s.sg.hi = _; rw [hN.ps.sg], ?_, rfl, rfl⟩
    rcases hc with ⟨c1, c2, c3, c4⟩ | ⟨c1, c2, c3, c4⟩
    · exact .inl ⟨c1, c2, c3, by rw [c4]⟩
    · exact .inr ⟨c1, c2, c3, by rw [c4]⟩
  obtain ⟨i1, i2⟩ := h.inv.step hr hk hm st
  have ls1 := Stp.less h.inv hr hk hm st
  have hb := h.bnd
  refine ⟨ms ++ [⟨(g : Int), (k : Int), lo, s.sg.hi, (m : Int)⟩], _, _, _, by simp, hp, ?_, ?_, hog, hot, ?_, ?_, h.rel.set g f, ?_, h.stp.snoc st, i1, ?_, ?_, ?_, kp, h.Bw, h.Bpb⟩
  · exact (h.wg.lessen h0 hN.eg hN.xg (by omega) rfl).perm pg
  · exact (h.wt.lessen hN.lt0 hN.ek hN.xk (by omega) rfl).perm pt
  · have := pg.length_eq; have := lsn_len lg (m : Int); have := h.lg16; omega
  · have := pt.length_eq; have := lsn_len lt (m : Int); have := h.lt16; omega
  · intro i x hx
    by_cases e : g = i
    · subst e
      rw [List.getElem?_set_self (List.getElem?_eq_some_iff.1 hN.lsg).1] at hx
      cases hx
      have q := h.pil g _ hN.lsg
      rw [List.length_append, List.length_singleton] at q
      rcases hT with ⟨_, _, _, e4⟩ | ⟨_, _, _, e4⟩
      · rw [e4]; omega
      · rw [e4, List.length_append, List.length_singleton]; omega
    · rw [List.getElem?_set_ne e] at hx
      exact h.pil i x hx
  · rw [List.length_append, List.length_singleton]
    omega
  · intro x hx
    rcases List.mem_append.1 hx with hx | hx
    · exact h.fit x hx
    · simp only [List.mem_singleton] at hx
      rw [hx]; exact i2.mvb
  · rw [List.length_append, List.length_singleton, cellsMs_snoc]
    have e : cellsM ⟨(g : Int), (k : Int), lo, s.sg.hi, (m : Int)⟩ = [.int .u8 (we lg 0).h, .int .u8 (we lt 0).h, .int .u64 lo, .int .u64 s.sg.hi, .int .i64 (m : Int)] := by
      unfold cellsM
      rw [hN.eg, hN.ek]
    rw [e]
    exact hrow
end Go.Proofs.YtbifmcadllilhaaGreat.Rg
