import Derived.Test.YtffcnonhhfhlhaaDoorWsH
namespace Go.Proofs.YtffcnonhhfhlhaaDoor.Ws
open Go.RowKit Go.Shelf Go.Sort
open Go.Proofs.YtffcnonhhfhlhaaDoor.It
open Go.Proofs.YtffcnonhhfhlhaaDoor.Rg (Kp Nu Sg cells cellsG)
set_option linter.unusedVariables false
theorem cells_snoc (S : List Sg) (g : Sg) : cells (S ++ [g]) = cells S ++ cellsG g := by simp [cells]
theorem ri_step {w V V2 W : World} {B C : Nat} {sa : Option Addr} {sc : Nat} {ba : Option Addr} {bc N bX : Nat} {S : List Sg} {pre : List (List UInt8)} {g : Sg} {x : List UInt8} {va : Option Addr} {vc : Nat} {ua : Option Addr} {uc : Nat} (hI : RI w B pre V) (k2 : Kp Nu V V2) (h : Rgn w V2 B sa sc ba bc N bX S pre g) (hP : Pok S pre) (eN : S.length = N) (hg : segF x = some g) (hO : O9 w V2 B sa sc ba bc N S pre g va vc ua uc W) :
    KeepsFrom C V (W.setCell ⟨w.heap.size + 1 + 1 + 1 + 1 + 1, 0, none⟩ (.int .i64 (off (pre ++ [x]) : Int))) ∧ Kc (fun k _ => k = w.heap.size + 6 + 1 ∨ k = w.heap.size + 6 ∨ k = w.heap.size + 6 + 2) V (W.setCell ⟨w.heap.size + 1 + 1 + 1 + 1 + 1, 0, none⟩ (.int .i64 (off (pre ++ [x]) : Int))) ∧ RI w B (pre ++ [x]) (W.setCell ⟨w.heap.size + 1 + 1 + 1 + 1 + 1, 0, none⟩ (.int .i64 (off (pre ++ [x]) : Int))) := by
  obtain ⟨W7, h7, rfl⟩ := hO
  obtain ⟨z7, z8, z9⟩ := O7.box h h7
  have hlo := h.lo
  obtain ⟨W', hW'⟩ : ∃ W', ((W7.setCell ⟨w.heap.size + 1 + 1 + 1, 0, none⟩ (.slice va (N + 1) vc)).setCell ⟨w.heap.size + 1 + 1 + 1 + 1, 0, none⟩ (.slice ua (N + 1) uc)).setCell ⟨w.heap.size + 1 + 1 + 1 + 1 + 1, 0, none⟩ (.int .i64 (off (pre ++ [x]) : Int)) = W' := ⟨_, rfl⟩
  have k3 : Kp (fun q => q = w.heap.size + 1 + 1 + 1 ∨ q = w.heap.size + 1 + 1 + 1 + 1 ∨ q = w.heap.size + 1 + 1 + 1 + 1 + 1) W7 W' := by
    rw [← hW']
    exact (((Rg.Kp.refl _ W7).andSet _ _ (.inr (.inl rfl))).andSet _ _ (.inr (.inr (.inl rfl)))).andSet _ _ (.inr (.inr (.inr rfl)))
  have m7 := Rg.set3 z7 0 (.slice va (N + 1) vc)
  have m8 := Rg.set3 ((set_other W7 (w.heap.size + 1 + 1 + 1) (.slice va (N + 1) vc) (w.heap.size + 1 + 1 + 1 + 1) (by omega)).trans z8) 0 (.slice ua (N + 1) uc)
  have m9 := Rg.set3 ((set_other (W7.setCell ⟨w.heap.size + 1 + 1 + 1, 0, none⟩ (.slice va (N + 1) vc)) (w.heap.size + 1 + 1 + 1 + 1) (.slice ua (N + 1) uc) (w.heap.size + 1 + 1 + 1 + 1 + 1) (by omega)).trans ((set_other W7 (w.heap.size + 1 + 1 + 1) (.slice va (N + 1) vc) (w.heap.size + 1 + 1 + 1 + 1 + 1) (by omega)).trans z9)) 0 (.int .i64 (off (pre ++ [x]) : Int))
  have b7 : W'.heap[w.heap.size + 1 + 1 + 1]? = some (.cells #[.slice va (N + 1) vc] 22 (0, 0)) := by
    rw [← hW']
    exact (set_other _ _ _ _ (by omega)).trans ((set_other _ _ _ _ (by omega)).trans m7)
  have b8 : W'.heap[w.heap.size + 1 + 1 + 1 + 1]? = some (.cells #[.slice ua (N + 1) uc] 115 (0, 0)) := by
    rw [← hW']
    exact (set_other _ _ _ _ (by omega)).trans m8
  have b9 : W'.heap[w.heap.size + 1 + 1 + 1 + 1 + 1]? = some (.cells #[.int .i64 (off (pre ++ [x]) : Int)] 3 (0, 0)) := by
    rw [← hW']
    exact m9
  rw [hW']
  clear m7 m8 m9 hW'
  have sS : Kp (fun q => (some q = (Value.slice sa N sc).ownBlock ∨ some q = (Value.slice ba N bc).ownBlock) ∨ (q = w.heap.size + 1 + 1 + 1 ∨ q = w.heap.size + 1 + 1 + 1 + 1 ∨ q = w.heap.size + 1 + 1 + 1 + 1 + 1)) V2 W' := (h7.2.2.mono (fun _ _ e => .inl e)).trans k3 (fun _ _ e => .inr e)
  have sV : Kp (fun q => (some q = (Value.slice sa N sc).ownBlock ∨ some q = (Value.slice ba N bc).ownBlock) ∨ (q = w.heap.size + 1 + 1 + 1 ∨ q = w.heap.size + 1 + 1 + 1 + 1 ∨ q = w.heap.size + 1 + 1 + 1 + 1 + 1)) V W' := (k2.mono (fun _ _ e => e.elim)).trans sS (fun _ _ e => e)
  obtain ⟨sv, bv, S0, _, t7, t8, tS, tB⟩ := hI.ex
  obtain ⟨u, hu⟩ := hI.bs
  have e7 : sv = .slice sa N sc := by
    have := (k2.block _ (Rg.blk_lt t7) (fun e => e)).trans t7
    rw [h.c7] at this; cases this; rfl
  have e8 : bv = .slice ba N bc := by
    have := (k2.block _ (Rg.blk_lt t8) (fun e => e)).trans t8
    rw [h.c8] at this; cases this; rfl
  rw [e7] at tS
  rw [e8] at tB
  have low : ∀ {q : Nat} {c : Array Value} {t : TypeId}, V.heap[q]? = some (.cells c t (0, 0)) → q < w.heap.size + 9 → q ≠ w.heap.size + 1 + 1 + 1 → q ≠ w.heap.size + 1 + 1 + 1 + 1 → q ≠ w.heap.size + 1 + 1 + 1 + 1 + 1 → W'.heap[q]? = some (.cells c t (0, 0)) := fun {q c t} hq hlt n1 n2 n3 =>
    (sV.block q (Rg.blk_lt hq) (fun e => by
      rcases e with (e | e) | (e | e | e)
      · have := (tS.lt q e.symm).1; omega
      · have := (tB.lt q e.symm).1; omega
      · exact n1 e
      · exact n2 e
      · exact n3 e)).trans hq
  have rk : ∀ {t e n : Nat} {v : Value} {xs : List Value}, W7.ownsRow B t e v n xs → W'.ownsRow B t e v n xs := fun hr => Rg.own_keep hr (fun q e => k3.block q (Rg.own_lt hr e) (fun e2 => by
    have := (hr.lt q e).1
    rcases e2 with e2 | e2 | e2 <;> omega))
  have hl : (S ++ [g]).length = N + 1 := by rw [List.length_append, eN]; rfl
  refine ⟨Rg.kf_cells sV (fun q hq => ?_), Rg.kc_cells sV (fun q c t m hq e hK => ?_), ?_⟩
  · rcases hq with (e | e) | (rfl | rfl | rfl)
    · obtain ⟨c, hc⟩ := Rg.own_obj tS e.symm; exact ⟨_, _, _, hc⟩
    · obtain ⟨c, hc⟩ := Rg.own_obj tB e.symm; exact ⟨_, _, _, hc⟩
    · exact ⟨_, _, _, t7⟩
    · exact ⟨_, _, _, t8⟩
    · exact ⟨_, _, _, hI.b9⟩
  · have hK : q = w.heap.size + 6 + 1 ∨ q = w.heap.size + 6 ∨ q = w.heap.size + 6 + 2 := hK
    rcases hq with (e2 | e2) | (e2 | e2 | e2)
    · have := (tS.lt q e2.symm).1; omega
    · have := (tB.lt q e2.symm).1; omega
    · omega
    · omega
    · omega
  · refine ⟨⟨_, _, S ++ [g], hP.snoc hg, b7, b8, ?_, ?_⟩, b9, low hI.b4 (by omega) (by omega) (by omega) (by omega), low hI.b5 (by omega) (by omega) (by omega) (by omega), low hI.b6 (by omega) (by omega) (by omega) (by omega), ⟨u, low hu (by omega) (by omega) (by omega) (by omega)⟩, hI.be.trans (sV.below w.heap.size hI.be.size (fun q e => ?_)), Nat.le_trans hI.sz sV.size⟩
    · rw [hl, cells_snoc]; exact rk h7.1
    · rw [hl, begs_snoc]; exact rk h7.2.1
    · rcases e with (e | e) | (e | e | e)
      · have := (tS.lt q e.symm).1; omega
      · have := (tB.lt q e.symm).1; omega
      · omega
      · omega
      · omega
theorem rx_mk {w V V2 : World} {B C : Nat} {pre : List (List UInt8)} {x : List UInt8} (hI : RI w B pre V) (k2 : Kp Nu V V2) (hno : segF x = none) :
    KeepsFrom C V (((V2.setCell ⟨w.heap.size, 0, none⟩ (.pointer none)).setCell ⟨w.heap.size + 1, 0, none⟩ (.int .i64 (off pre : Int))).setCell ⟨w.heap.size + 1 + 1, 0, none⟩ (.int .i64 64)) ∧ RX w .ret (pre ++ [x]) (((V2.setCell ⟨w.heap.size, 0, none⟩ (.pointer none)).setCell ⟨w.heap.size + 1, 0, none⟩ (.int .i64 (off pre : Int))).setCell ⟨w.heap.size + 1 + 1, 0, none⟩ (.int .i64 64)) := by
  have h2 := hI.nu k2
  have sV : Kp (fun q => q = w.heap.size ∨ q = w.heap.size + 1 ∨ q = w.heap.size + 1 + 1) V (((V2.setCell ⟨w.heap.size, 0, none⟩ (.pointer none)).setCell ⟨w.heap.size + 1, 0, none⟩ (.int .i64 (off pre : Int))).setCell ⟨w.heap.size + 1 + 1, 0, none⟩ (.int .i64 64)) :=
    (((k2.mono (fun _ _ e => e.elim)).andSet _ _ (.inr (.inl rfl))).andSet _ _ (.inr (.inr (.inl rfl)))).andSet _ _ (.inr (.inr (.inr rfl)))
  have m4 := Rg.set3 h2.b4 0 (.pointer none)
  have m5 := Rg.set3 ((set_other V2 (w.heap.size) (.pointer none) (w.heap.size + 1) (by omega)).trans h2.b5) 0 (.int .i64 (off pre : Int))
  have m6 := Rg.set3 ((set_other (V2.setCell ⟨w.heap.size, 0, none⟩ (.pointer none)) (w.heap.size + 1) (.int .i64 (off pre : Int)) (w.heap.size + 1 + 1) (by omega)).trans ((set_other V2 (w.heap.size) (.pointer none) (w.heap.size + 1 + 1) (by omega)).trans h2.b6)) 0 (.int .i64 64)
  obtain ⟨sv, bv, S, hP, _⟩ := hI.ex
  refine ⟨Rg.kf_cells sV (fun q hq => ?_), rfl, ⟨pre, x, rfl, hP.all, hno, ?_⟩, ?_, m6, hI.be.trans (sV.below w.heap.size hI.be.size (fun q e => ?_))⟩
  · rcases hq with rfl | rfl | rfl
    · exact ⟨_, _, _, hI.b4⟩
    · exact ⟨_, _, _, hI.b5⟩
    · exact ⟨_, _, _, hI.b6⟩
  · exact (set_other _ _ _ _ (by omega)).trans m5
  · exact (set_other _ _ _ _ (by omega)).trans ((set_other _ _ _ _ (by omega)).trans m4)
  · rcases e with e | e | e <;> omega
theorem lrs_keep {V V3 W : World} {lim : Int} {S : List Sg} {p : Value} {i c : Int} {T : Nat → Prop} (h : Rg.Lrs V V3 lim S p i c) (k : Kp T V3 W) (hT : ∀ q, T q → q < V.heap.size) : Rg.Lrs V W lim S p i c := by
  rcases h with h | h | ⟨h1, h2, h3, h4, h5, b, v, h6, t⟩
  · exact .inl h
  · exact .inr (.inl h)
  · refine .inr (.inr ⟨h1, h2, h3, h4, h5, b, v, h6, ?_⟩)
    exact ⟨(k.block b (Rg.blk_lt t.blk) (fun e => by have := hT b e; have := t.low; omega)).trans t.blk, t.low, Rg.own_keep t.own (fun q e => k.block q (Rg.own_lt t.own e) (fun e2 => by have := hT q e2; have := (t.own.lt q e).1; omega)), t.tab, t.len, t.lim1⟩
theorem lrs_cases {V V3 : World} {lim : Int} {S : List Sg} {p : Value} {i c : Int} (h : Rg.Lrs V V3 lim S p i c) : (c ≠ 0 ∧ p = .pointer none ∧ ((∃ k : Nat, k < S.length ∧ i = (k : Int)) ∨ i = (S.length : Int))) ∨ (c = 0 ∧ ∃ b, p = .pointer (some ⟨b, 0, none⟩)) := by
  rcases h with ⟨h1, k, s, _, h3, _, h5, h6⟩ | ⟨h1, _, h3, h4⟩ | ⟨h1, h2, h3, h4, h5, b, v, h6, t⟩
  · exact .inl ⟨h5, h1, .inl ⟨k, (List.getElem?_eq_some_iff.1 h3).1, h6⟩⟩
  · refine .inl ⟨?_, h1, .inr h3⟩
    rcases h4 with ⟨h, _⟩ | ⟨h, _⟩ <;> rw [h] <;> decide
  · exact .inr ⟨h1, b, h6⟩
/-- the three results -/
theorem three_set {w V : World} {x y z : Value} {t4 t5 t6 : TypeId} (h4 : V.heap[w.heap.size]? = some (.cells #[x] t4 (0, 0))) (h5 : V.heap[w.heap.size + 1]? = some (.cells #[y] t5 (0, 0))) (h6 : V.heap[w.heap.size + 1 + 1]? = some (.cells #[z] t6 (0, 0))) (a b c : Value) :
    let W := ((V.setCell ⟨w.heap.size, 0, none⟩ a).setCell ⟨w.heap.size + 1, 0, none⟩ b).setCell ⟨w.heap.size + 1 + 1, 0, none⟩ c
    W.heap[w.heap.size]? = some (.cells #[a] t4 (0, 0)) ∧ W.heap[w.heap.size + 1]? = some (.cells #[b] t5 (0, 0)) ∧ W.heap[w.heap.size + 1 + 1]? = some (.cells #[c] t6 (0, 0)) ∧ Kp (fun q => q = w.heap.size ∨ q = w.heap.size + 1 ∨ q = w.heap.size + 1 + 1) V W := by
  intro W
  have m4 := Rg.set3 h4 0 a
  have m5 := Rg.set3 ((set_other V (w.heap.size) a (w.heap.size + 1) (by omega)).trans h5) 0 b
  have m6 := Rg.set3 ((set_other (V.setCell ⟨w.heap.size, 0, none⟩ a) (w.heap.size + 1) b (w.heap.size + 1 + 1) (by omega)).trans ((set_other V (w.heap.size) a (w.heap.size + 1 + 1) (by omega)).trans h6)) 0 c
  exact ⟨(set_other _ _ _ _ (by omega)).trans ((set_other _ _ _ _ (by omega)).trans m4), (set_other _ _ _ _ (by omega)).trans m5, m6, (((Rg.Kp.refl _ V).andSet _ _ (.inr (.inl rfl))).andSet _ _ (.inr (.inr (.inl rfl)))).andSet _ _ (.inr (.inr (.inr rfl)))⟩
theorem kp_put {V : World} {D : Nat} (o : Obj) {T : Nat → Prop} (hT : T D) : Kp T V (V.putObj D o) := ⟨rfl, rfl, rfl, by simp, fun k hk hs => World.putObj_heap_other (fun e => by subst e; exact hs hT)⟩
theorem own_at {w : World} {B t n cap : Nat} {ad : Option Addr} {xs : List Value} (h : w.ownsRow B t 1 (.slice ad n cap) n xs) {k : Nat} {u : Value} (hk : xs[k]? = some u) : ∃ g, ad = some ⟨g, 0, none⟩ ∧ w.cell? ⟨g, k, none⟩ = some u ∧ B ≤ g := by
  have hlt := (List.getElem?_eq_some_iff.1 hk).1
  have hl := h.1
  rcases h.2 with ⟨_, h2⟩ | ⟨g, cap', cur, e1, hB, h3, _, _, _, h7⟩
  · omega
  · cases e1
    refine ⟨g, rfl, ?_, hB⟩
    rw [← h7, List.getElem?_take] at hk
    split at hk
    · simp only [World.cell?, h3]
      rw [← hk]
      simp
    · cases hk
theorem rx_drew {w V W : World} {C : Nat} {c : Code} {p : List (List UInt8)} (h : KeepsFrom C V W ∧ RX w c p W) : KeepsFrom C V W.drew ∧ RX w c p W.drew :=
  ⟨⟨h.1.size, h.1.same⟩, h.2.rt, h.2.no, h.2.b4, h.2.b6, h.2.be.trans ((Rg.Kp.refl Nu W).drew.toBelow.mono h.2.be.size)⟩
end Go.Proofs.YtffcnonhhfhlhaaDoor.Ws
