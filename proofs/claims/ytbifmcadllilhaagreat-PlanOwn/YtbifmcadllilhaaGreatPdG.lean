import Derived.Test.YtbifmcadllilhaaGreatOrdB
namespace Go.Proofs.YtbifmcadllilhaaGreat.Rg
open Go.RowKit Go.Shelf Go.Sort
open Go.Proofs.YtbifmcadllilhaaGreat.It
attribute [local go_sem] Oper.semAt_some
set_option linter.unusedVariables false
theorem info129 : (Tryz.prog.info? 99).map (fun i => (i.zero, i.size, i.bytes)) = some (some (.agg #[.int .u64 0, .int .u64 0, .int .u8 0, .slice none 0 0]), 4, 48) := by kernel_rfl
set_option maxHeartbeats 1000000 in
theorem all69 {B b : Nat} {w : World} {lim : Int} {v : Value} {L : List Sg} (h : Tb B w b lim v L) :
    Calls Tryz.prog 44 #[.pointer (some ⟨b, 0, none⟩)] w fun e w' => ∃ Bn r cap, e = .returned (.func (.func 82) #[] #[.pointer (some ⟨Bn, 0, none⟩)]) ∧ w'.heap[Bn]? = some (.cells #[.slice (some ⟨r, 0, none⟩) L.length cap] 22 (0, 0)) ∧ v.ownBlock = some r ∧ Kp Nu w w' := by
  have FR := from_any h 0 (by omega) (by omega)
  rw [plc_first h.tab.cov] at FR
  simp only [List.drop_zero, Nat.zero_mul] at FR
  go_enter Tryz.func44, Tryz.ntmps44
  go_wp2_with (go_at_call 63; refine FR.mono ?_; rintro e w' ⟨Bn, r, cap, rfl, h1, h2, h3, h4⟩)
  go_ret
  exact ⟨Bn, r, cap, rfl, h2, h3, h4⟩
theorem set_two {W : World} {b2 b3 : Nat} {v c : Value} {t t' : TypeId} (h2 : W.heap[b2]? = some (.cells #[v] t (0, 0))) (h3 : W.heap[b3]? = some (.cells #[c] t' (0, 0))) (hne : b2 ≠ b3) (v' c' : Value) :
    ((W.setCell ⟨b2, 0, none⟩ v').setCell ⟨b3, 0, none⟩ c').heap[b2]? = some (.cells #[v'] t (0, 0)) ∧ ((W.setCell ⟨b2, 0, none⟩ v').setCell ⟨b3, 0, none⟩ c').heap[b3]? = some (.cells #[c'] t' (0, 0)) := by
  have q2 := set3 h2 0 v'
  have q3 : (W.setCell ⟨b2, 0, none⟩ v').heap[b3]? = some (.cells #[c] t' (0, 0)) := ((Kp.setCell W ⟨b2, 0, none⟩ v').block b3 (blk_lt h3) (fun e => hne (Eq.symm e))).trans h3
  exact ⟨((Kp.setCell _ ⟨b3, 0, none⟩ c').block b2 (blk_lt q2) (fun e => hne e)).trans q2, set3 q3 0 c'⟩
/-- the keys of each segment -/
def kd : List Sg → List Int → List (List Int)
  | [], _ => []
  | s :: r, ks => ks.take (wth ks s.hi) :: kd r (ks.drop (wth ks s.hi))
theorem kd_snoc : ∀ (p : List Sg) (x : Sg) (ks : List Int), kd (p ++ [x]) ks = kd p ks ++ [(rst p ks).take (wth (rst p ks) x.hi)]
  | [], x, ks => rfl
  | s :: r, x, ks => by rw [List.cons_append, kd, kd, kd_snoc r x]; rfl
/-- so many keys has each, and these -/
structure Dlt (w : World) (l : List St) (pre : List Sg) (ks : List Int) : Prop where
  n : l.map (·.n) = dl pre ks
  len : l.length = (kd pre ks).length
  ky : ∀ (i : Nat) s q, l[i]? = some s → (kd pre ks)[i]? = some q → Us w (.slice s.a s.n s.c) q
theorem Dlt.snoc {w : World} {l : List St} {pre : List Sg} {ks : List Int} (h : Dlt w l pre ks) {x : Sg} {ka : Option Addr} {q kc : Nat} (hq : wth (rst pre ks) x.hi = q) (hV : Us w (.slice ka q kc) ((rst pre ks).take q)) : Dlt w (l ++ [⟨x, ka, q, kc⟩]) (pre ++ [x]) ks := by
  refine ⟨by rw [List.map_append, h.n, dl_snoc, hq]; rfl, by rw [kd_snoc, List.length_append, List.length_append, h.len]; rfl, fun i s p hs hp => ?_⟩
  rw [kd_snoc, hq] at hp
  by_cases e : i < l.length
  · rw [List.getElem?_append_left e] at hs
    rw [List.getElem?_append_left (by rw [← h.len]; exact e)] at hp
    exact h.ky i s p hs hp
  · rw [List.getElem?_append_right (by omega)] at hs
    rw [List.getElem?_append_right (by rw [← h.len]; omega), ← h.len] at hp
    have e0 : i - l.length = 0 := by
      rcases Nat.eq_zero_or_pos (i - l.length) with h | h
      · exact h
      · rw [List.getElem?_eq_none (by simp; omega)] at hs; cases hs
    rw [e0] at hs hp
    cases hs
    cases hp
    exact hV
theorem us_take {w : World} {ka : Option Addr} {kc q : Nat} {l : List Int} (h : Us w (.slice ka l.length kc) l) (hq : q ≤ l.length) : Us w (.slice ka q kc) (l.take q) := by
  obtain ⟨a, cap, h0, h2, h1⟩ := h
  simp only [Value.slice.injEq] at h0
  obtain ⟨rfl, _, rfl⟩ := h0
  refine ⟨ka, kc, by rw [List.length_take, Nat.min_eq_left hq], by rw [List.length_take]; omega, fun j x hx => ?_⟩
  rw [List.getElem?_take] at hx
  split at hx
  · exact h1 j x hx
  · cases hx
/-- what stands while the segments are gone through -/
structure LyI (w w5 : World) (BO r : Nat) (n : Int) (ks : List Int) (pre : List Sg) (V : World) : Prop where
  ky : ∃ ka kc, Us w (.slice ka (rst pre ks).length kc) (rst pre ks) ∧ (ka = none → kc = 0) ∧ V.heap[w.heap.size + 1]? = some (.cells #[.slice ka (rst pre ks).length kc] 23 (0, 0))
  out : ∃ ov l, V.heap[BO]? = some (.cells #[ov] 68 (0, 0)) ∧ l.map (·.sg) = pre ∧ Dlt w l pre ks ∧ V.ownsRow w5.heap.size 99 4 ov l.length (cellsT l)
  hs : ∀ s ∈ pre, s.h < n
  b0 : V.heap[w.heap.size]? = some (.cells #[.int .i64 n] 3 (0, 0))
  b2 : V.heap[w.heap.size + 1 + 1]? = some (.cells #[.slice none 0 0] 68 (0, 0))
  b3 : V.heap[w.heap.size + 1 + 1 + 1]? = some (.cells #[.int .i64 0] 28 (0, 0))
  be : Below w.heap.size w V
  w5le : w5.heap.size ≤ V.heap.size
  rb : ∃ cur, V.heap[r]? = some (.cells cur 38 (0, 0))
structure LyX (w : World) (n : Int) (c : Code) (pre : List Sg) (V : World) : Prop where
  rt : c = .ret
  no : ∃ s ∈ pre, ¬ s.h < n
  b2 : V.heap[w.heap.size + 1 + 1]? = some (.cells #[.slice none 0 0] 68 (0, 0))
  b3 : V.heap[w.heap.size + 1 + 1 + 1]? = some (.cells #[.int .i64 151] 28 (0, 0))
  be : Below w.heap.size w V
theorem lt_cases9 {i : Nat} (h : i < 9) : i = 0 ∨ i = 1 ∨ i = 2 ∨ i = 3 ∨ i = 4 ∨ i = 5 ∨ i = 6 ∨ i = 7 ∨ i = 8 := by omega
theorem cell_four_at {w : World} {B : Nat} {a b c d : Value} {t : TypeId} (h : w.heap[B]? = some (.cells #[a, b, c, d] t (0, 0))) : ∀ j u, [a, b, c, d][j]? = some u → w.cell? ((⟨B, 0, none⟩ : Addr).add j) = some u := by
  intro j u hj
  rw [Addr.add_lit, Nat.zero_add]
  match j, hj with
  | 0, hj => simp at hj; subst hj; simp [World.cell?, h]
  | 1, hj => simp at hj; subst hj; simp [World.cell?, h]
  | 2, hj => simp at hj; subst hj; simp [World.cell?, h]
  | 3, hj => simp at hj; subst hj; simp [World.cell?, h]
  | j + 4, hj => simp at hj
theorem own_type' {w : World} {B n g e size : Nat} {u : Value} {xs : List Value} (h : w.ownsRow B e size u n xs) (hg : u.ownBlock = some g) : ∃ c, w.heap[g]? = some (.cells c e (0, 0)) := own_obj h hg
theorem LyI.own {w w5 : World} {BO r : Nat} {n : Int} {ks : List Int} (hs : w.heap.size ≤ w5.heap.size) : OwnFrom w5.heap.size (fun p V => LyI w w5 BO r n ks p V) := fun p X Z row h hg hr => by
  obtain ⟨ka, kc, k1, k2, k3⟩ := h.ky
  obtain ⟨ov, l, o1, o2, o3, o4⟩ := h.out
  refine ⟨⟨ka, kc, k1, k2, own_cells (β := Unit) _ _ _ _ _ () X Z row k3 hg hr⟩, ⟨ov, l, own_cells (β := Unit) _ _ _ _ _ () X Z row o1 hg hr, o2, o3, own_keep o4 (fun g e => hg.block g (own_lt o4 e) (fun e2 => ?_))⟩, h.hs, own_cells (β := Unit) _ _ _ _ _ () X Z row h.b0 hg hr, own_cells (β := Unit) _ _ _ _ _ () X Z row h.b2 hg hr, own_cells (β := Unit) _ _ _ _ _ () X Z row h.b3 hg hr, ownFrom_below (β := Unit) (Nat.le_refl _) hs () X Z row h.be hg hr, Nat.le_trans h.w5le hg.size, ⟨h.rb.choose, own_cells (β := Unit) _ _ _ _ _ () X Z row h.rb.choose_spec hg hr⟩⟩
  obtain ⟨_, o, ho, hc⟩ := hr g e2.symm
  obtain ⟨c, e3⟩ := own_obj o4 e
  rw [e3] at ho; cases ho; cases hc
theorem LyX.own {w w5 : World} {n : Int} {c : Code} (hs : w.heap.size ≤ w5.heap.size) : OwnFrom w5.heap.size (fun p V => LyX w n c p V) := fun p X Z row h hg hr =>
  ⟨h.rt, h.no, own_cells (β := Unit) _ _ _ _ _ () X Z row h.b2 hg hr, own_cells (β := Unit) _ _ _ _ _ () X Z row h.b3 hg hr, ownFrom_below (β := Unit) (Nat.le_refl _) hs () X Z row h.be hg hr⟩
theorem LyI.nu {w w5 V V' : World} {BO r : Nat} {n : Int} {ks : List Int} {p : List Sg} (h : LyI w w5 BO r n ks p V) (k : Kp Nu V V') : LyI w w5 BO r n ks p V' := by
  obtain ⟨ka, kc, k1, k2, k3⟩ := h.ky
  obtain ⟨ov, l, o1, o2, o3, o4⟩ := h.out
  exact ⟨⟨ka, kc, k1, k2, box2 k3 k⟩, ⟨ov, l, box2 o1 k, o2, o3, own_keep o4 (fun g e => k.block g (own_lt o4 e) (fun h => h))⟩, h.hs, box2 h.b0 k, box2 h.b2 k, box2 h.b3 k, h.be.trans (k.below _ h.be.size (fun _ h => h.elim)), Nat.le_trans h.w5le k.size, ⟨_, box2 h.rb.choose_spec k⟩⟩
theorem us_drop {w : World} {ka : Option Addr} {R kc q : Nat} {l : List Int} (h : Us w (.slice ka R kc) l) (hR : l.length = R) (hq : q ≤ R) : Us w (.slice (Option.map (fun x => x.add q) ka) (R - q) (kc - q)) (l.drop q) := by
  obtain ⟨a, cap, h0, h2, h1⟩ := h
  simp only [Value.slice.injEq] at h0
  obtain ⟨rfl, h0, rfl⟩ := h0
  refine ⟨_, _, by rw [List.length_drop, hR], by rw [List.length_drop]; omega, fun j x hx => ?_⟩
  rw [List.getElem?_drop] at hx
  obtain ⟨b, rfl, hc⟩ := h1 (q + j) x hx
  exact ⟨b.add q, rfl, by rw [Deep.add_add]; exact hc⟩
theorem us_end {w : World} {ka : Option Addr} {R q : Nat} {l : List Int} (hR : l.length = R) (hq : R ≤ q) : Us w (.slice ka (R - q) 0) (l.drop q) := by
  have e : l.drop q = [] := List.drop_eq_nil_of_le (by omega)
  rw [e]
  exact ⟨ka, 0, by simp; omega, by simp, fun j x hx => by simp at hx⟩
theorem LyI.step {w w5 V V1 w7 : World} {BO r : Nat} {n : Int} {ks : List Int} {pre : List Sg} {x : Sg} {oa va : Option Addr} {oc vc LN : Nat} {l : List St} {ka : Option Addr} {q kc : Nat} {k U : Value} (hI : LyI w w5 BO r n ks pre V) (hkv : Kp Nu V V1)
    (o1v : V1.heap[BO]? = some (.cells #[.slice oa LN oc] 68 (0, 0))) (o4v : V1.ownsRow w5.heap.size 99 4 (.slice oa LN oc) LN (cellsT l)) (o2 : l.map (·.sg) = pre) (o3 : Dlt w l pre ks) (eLN : l.length = LN)
    (hA1 : w7.ownsRow w5.heap.size 99 4 (.slice va (LN + 1) vc) (LN + 1) (cellsT l ++ [.int .u64 x.lo, .int .u64 x.hi, .int .u8 x.h, .slice ka q kc])) (hA2 : Kp (fun g => some g = (Value.slice oa LN oc).ownBlock) V1 w7)
    (k3v : V1.heap[w.heap.size + 1]? = some (.cells #[k] 23 (0, 0))) (hq : wth (rst pre ks) x.hi = q) (hV : Us w (.slice ka q kc) ((rst pre ks).take q)) (hn : x.h < n) (hbo : w.heap.size + 1 + 1 + 1 < BO) (hws : w.heap.size ≤ w5.heap.size)
    (hU : ∃ ka' kc', U = .slice ka' (rst (pre ++ [x]) ks).length kc' ∧ Us w U (rst (pre ++ [x]) ks) ∧ (ka' = none → kc' = 0)) :
    KeepsFrom w5.heap.size V ((w7.setCell ⟨BO, 0, none⟩ (.slice va (LN + 1) vc)).setCell ⟨w.heap.size + 1, 0, none⟩ U) ∧ Kc (fun g _ => g = r) V ((w7.setCell ⟨BO, 0, none⟩ (.slice va (LN + 1) vc)).setCell ⟨w.heap.size + 1, 0, none⟩ U) ∧ LyI w w5 BO r n ks (pre ++ [x]) ((w7.setCell ⟨BO, 0, none⟩ (.slice va (LN + 1) vc)).setCell ⟨w.heap.size + 1, 0, none⟩ U) := by
  have I1 := hI.nu hkv
  obtain ⟨cur, hr⟩ := I1.rb
  have hne : w.heap.size + 1 ≠ BO := by omega
  -- blocks that are not the row's
  have nb : ∀ {g : Nat} {c : Array Value} {t : TypeId}, V1.heap[g]? = some (.cells c t (0, 0)) → t ≠ 99 → some g ≠ (Value.slice oa LN oc).ownBlock := fun {g c t} h1 h2 e => by
    obtain ⟨cc, e3⟩ := own_obj o4v e.symm
    rw [h1] at e3; cases e3; exact h2 rfl
  have sS : Kp (fun g => g = w.heap.size + 1 ∨ g = BO ∨ some g = (Value.slice oa LN oc).ownBlock) V1 ((w7.setCell ⟨BO, 0, none⟩ (.slice va (LN + 1) vc)).setCell ⟨w.heap.size + 1, 0, none⟩ U) :=
    (((hA2.mono (fun _ _ h => .inr (.inr h))).trans (Kp.setCell _ ⟨BO, 0, none⟩ _) (fun _ _ h => .inr (.inl h))).trans (Kp.setCell _ ⟨w.heap.size + 1, 0, none⟩ _) (fun _ _ h => .inl h))
  have sV : Kp (fun g => g = w.heap.size + 1 ∨ g = BO ∨ some g = (Value.slice oa LN oc).ownBlock) V ((w7.setCell ⟨BO, 0, none⟩ (.slice va (LN + 1) vc)).setCell ⟨w.heap.size + 1, 0, none⟩ U) := (hkv.mono (fun _ _ h => h.elim)).trans sS (fun _ _ h => h)
  have st : ∀ {g : Nat} {c : Array Value} {t : TypeId}, V1.heap[g]? = some (.cells c t (0, 0)) → t ≠ 99 → g ≠ BO → g ≠ w.heap.size + 1 → ((w7.setCell ⟨BO, 0, none⟩ (.slice va (LN + 1) vc)).setCell ⟨w.heap.size + 1, 0, none⟩ U).heap[g]? = some (.cells c t (0, 0)) := fun {g c t} h1 h2 h3 h4 =>
    (sS.block g (blk_lt h1) (fun e => by
      rcases e with e | e | e
      · exact h4 e
      · exact h3 e
      · exact nb h1 h2 e)).trans h1
  have rne : r ≠ BO ∧ r ≠ w.heap.size + 1 := ⟨(fun e => by rw [e, o1v] at hr; cases hr), (fun e => by rw [e, k3v] at hr; cases hr)⟩
  have hBw : w7.heap[BO]? = some (.cells #[.slice oa LN oc] 68 (0, 0)) := (hA2.block BO (blk_lt o1v) (fun e => nb o1v (by decide) e)).trans o1v
  have hKw : w7.heap[w.heap.size + 1]? = some (.cells #[k] 23 (0, 0)) := (hA2.block _ (blk_lt k3v) (fun e => nb k3v (by decide) e)).trans k3v
  have kB := (Kp.setCell w7 ⟨BO, 0, none⟩ (.slice va (LN + 1) vc))
  have hKw2 := (kB.block _ (blk_lt hKw) (fun e => hne e)).trans hKw
  have hB2 := set3 hBw 0 (.slice va (LN + 1) vc)
  have kK := Kp.setCell (w7.setCell ⟨BO, 0, none⟩ (.slice va (LN + 1) vc)) ⟨w.heap.size + 1, 0, none⟩ U
  refine ⟨kf_cells sV (fun g hg => ?_), kc_cells sV (fun g c t m hg e hK => ?_), ?_⟩
  · rcases hg with rfl | rfl | e
    · obtain ⟨_, _, _, _, h⟩ := hI.ky; exact ⟨_, _, _, h⟩
    · obtain ⟨_, _, h, _⟩ := hI.out; exact ⟨_, _, _, h⟩
    · obtain ⟨cc, e3⟩ := own_obj o4v e.symm
      have hlt : g < V.heap.size := by
        obtain ⟨ov, l', h1, _, _, h4⟩ := hI.out
        have e5 := box2 h1 hkv
        rw [o1v] at e5
        simp only [Option.some.injEq, Obj.cells.injEq, Array.mk.injEq, List.cons.injEq, and_true] at e5
        rw [← e5] at h4
        exact own_lt h4 e.symm
      exact ⟨_, _, _, (hkv.block g hlt (fun h => h)).symm.trans e3⟩
  · have e2 : g = r := hK
    subst e2
    rcases hg with e | e | e
    · exact rne.2 e
    · exact rne.1 e
    · exact nb hr (by decide) e
  · obtain ⟨ka', kc', rfl, hU1, hU2⟩ := hU
    refine ⟨⟨ka', kc', hU1, hU2, set3 hKw2 0 _⟩, ⟨.slice va (LN + 1) vc, l ++ [⟨x, ka, q, kc⟩], (kK.block BO (blk_lt hB2) (fun e => hne e.symm)).trans hB2, by rw [List.map_append, o2]; rfl, o3.snoc hq hV, ?_⟩, fun s hs => ?_, st I1.b0 (by decide) (by omega) (by omega), st I1.b2 (by decide) (by omega) (by omega), st I1.b3 (by decide) (by omega) (by omega), ?_, ?_, ⟨cur, st hr (by decide) rne.1 rne.2⟩⟩
    · rw [List.length_append, eLN, cellsT_snoc]
      refine own_keep hA1 (fun g e => ?_)
      obtain ⟨cc, e3⟩ := own_obj hA1 e
      have h1 : g ≠ BO := fun e4 => by rw [e4, hBw] at e3; cases e3
      have h2 : g ≠ w.heap.size + 1 := fun e4 => by rw [e4, hKw] at e3; cases e3
      have e5 := (kB.block g (blk_lt e3) (fun e => h1 e))
      exact (kK.block g (by rw [World.size_setCell]; exact blk_lt e3) (fun e => h2 e)).trans e5
    · rcases List.mem_append.1 hs with h | h
      · exact hI.hs s h
      · simp only [List.mem_singleton] at h; rw [h]; exact hn
    · refine I1.be.trans (sS.below _ I1.be.size (fun g hg => ?_))
      rcases hg with e | e | e
      · omega
      · omega
      · have := (o4v.lt g e.symm).1
        have := I1.be.size
        have := hI.w5le
        omega
    · exact Nat.le_trans I1.w5le sS.size
/-- what layOut answers -/
def LyP (w w' : World) (n : Int) (M : List Sg) (ks : List Int) (v : Value) (c : Int) : Prop :=
  (¬ LayB n M ks ∧ v = .slice none 0 0 ∧ c = 151) ∨ (LayB n M ks ∧ c = 0 ∧ ∃ l : List St, l.map (·.sg) = lays [] M ∧ Dlt w l (lays [] M) ks ∧ w'.ownsRow w.heap.size 99 4 v l.length (cellsT l))
set_option maxRecDepth 100000 in
set_option maxHeartbeats 4000000 in
theorem layOut42 (w : World) (n : Int) (u k : Value) (M : List Sg) (ks : List Int) (hM : Sgs w u M) (hlen : (M.length : Int) ≤ 5864062014634) (hk : Us w k ks) (hkl : ks.length * 8 ≤ 140737488351232) (hnil : ∀ m c, k = .slice none m c → c = 0) :
    Calls Tryz.prog 26 #[.int .i64 n, u, k] w fun e w' => ∃ v c, e = .returned (.tuple #[v, .int .i64 c]) ∧ LyP w w' n M ks v c ∧ Kp Nu w w' := by
  have mixed : Tryz.prog.follows .mixedOrders = true := by kernel_rfl
  obtain ⟨ad, cap, hu⟩ := hM.slice
  obtain ⟨a1, c1, rfl, _, _⟩ := id hk
  have K4 := (((Kp.alloc w (.cells #[.int .i64 n] 3) Nu).andAlloc (.cells #[.slice a1 ks.length c1] 23)).andAlloc (.cells #[.slice none 0 0] 68)).andAlloc (.cells #[.int .i64 0] 28)
  have bx : (((((w.alloc (.cells #[.int .i64 n] 3)).alloc (.cells #[.slice a1 ks.length c1] 23)).alloc (.cells #[.slice none 0 0] 68)).alloc (.cells #[.int .i64 0] 28)).heap[w.heap.size]? = some (.cells #[.int .i64 n] 3 (0, 0))) ∧
      (((((w.alloc (.cells #[.int .i64 n] 3)).alloc (.cells #[.slice a1 ks.length c1] 23)).alloc (.cells #[.slice none 0 0] 68)).alloc (.cells #[.int .i64 0] 28)).heap[w.heap.size + 1]? = some (.cells #[.slice a1 ks.length c1] 23 (0, 0))) ∧
      (((((w.alloc (.cells #[.int .i64 n] 3)).alloc (.cells #[.slice a1 ks.length c1] 23)).alloc (.cells #[.slice none 0 0] 68)).alloc (.cells #[.int .i64 0] 28)).heap[w.heap.size + 1 + 1]? = some (.cells #[.slice none 0 0] 68 (0, 0))) ∧
      (((((w.alloc (.cells #[.int .i64 n] 3)).alloc (.cells #[.slice a1 ks.length c1] 23)).alloc (.cells #[.slice none 0 0] 68)).alloc (.cells #[.int .i64 0] 28)).heap[w.heap.size + 1 + 1 + 1]? = some (.cells #[.int .i64 0] 28 (0, 0))) := by
    have q1 := heap_alloc_new (w.alloc (.cells #[.int .i64 n] 3)) (.cells #[.slice a1 ks.length c1] 23)
    have q2 := heap_alloc_new ((w.alloc (.cells #[.int .i64 n] 3)).alloc (.cells #[.slice a1 ks.length c1] 23)) (.cells #[.slice none 0 0] 68)
    have q3 := heap_alloc_new (((w.alloc (.cells #[.int .i64 n] 3)).alloc (.cells #[.slice a1 ks.length c1] 23)).alloc (.cells #[.slice none 0 0] 68)) (.cells #[.int .i64 0] 28)
    simp only [World.size_alloc] at q1 q2 q3
    exact ⟨box2 (heap_alloc_new w _) (((Kp.alloc _ _ Nu).andAlloc _).andAlloc _), box2 q1 ((Kp.alloc _ _ Nu).andAlloc _), box2 q2 (Kp.alloc _ _ Nu), q3⟩
  generalize hW4 : ((((w.alloc (.cells #[.int .i64 n] 3)).alloc (.cells #[.slice a1 ks.length c1] 23)).alloc (.cells #[.slice none 0 0] 68)).alloc (.cells #[.int .i64 0] 28)) = W4 at K4 bx
  have LO := Load_any W4 u M (hM.nu K4).rz hM.sgb (by omega) 8192
  obtain ⟨N, eN⟩ : ∃ N, ks.length = N := ⟨_, rfl⟩
  have HU := hide (And.intro hM (And.intro hk (And.intro eN (And.intro hkl (And.intro hnil (And.intro bx K4))))))
  rw [eN] at hkl ⊢
  rw [eN] at hW4
  generalize M.length = NM at hu
  subst hu
  clear hM hk eN hlen hnil bx K4
  refine (callsIn_wide (n := 4)).1 ?_
  refine callsIn_of_wp_marks Tryz.func26 rfl trivial ?_ rfl
  simp only [Tryz.ntmps26, List.size_toArray, List.length_cons, List.length_nil, Nat.reduceAdd, Nat.reduceSub, Array.replicate_succ, Array.replicate_zero, List.push_toArray, List.append_toArray, List.nil_append, List.cons_append]
  gi_wp2_with fail
  refine ⟨trivial, (callsIn_wide.2 LO).mono ?_⟩
  rintro e w1 ⟨p, c, rfl, hL, hk1⟩
  have HL := hide (And.intro hL hk1)
  clear LO
  rcases hL.ptr with ⟨rfl, hc⟩ | ⟨rfl, b, rfl⟩
  · have hcb : (c != 0) = true := by simpa using hc
    have HC := hide hc
    obtain ⟨x0, x1, x2, x3⟩ := HU.out.2.2.2.2.2.1
    have y2 := cell1 (box2 x2 hk1)
    have y3 := cell1 (box2 x3 hk1)
    have f2 := free3 (box2 x2 hk1) 0
    have f3 := free3 (box2 x3 hk1) 0
    clear hL hk1 hc x0 x1 x2 x3
    gi_wp2_with fail
    refine ⟨trivial, ?_⟩
    gi_wp2
    obtain ⟨z2, z3⟩ := set_two (box2 HU.out.2.2.2.2.2.1.2.2.1 HL.out.2) (box2 HU.out.2.2.2.2.2.1.2.2.2 HL.out.2) (by omega) (.slice none 0 0) (.int .i64 151)
    have q2 := cell1 z2
    have q3 := cell1 z3
    refine ⟨.tuple #[.slice none 0 0, .int .i64 151], by simp [results, Tryz.results26, go_sem, q2, q3], _, _, rfl, .inl ⟨fun h => HC.out ((lrt_iff HL.out.1).2 h.1), rfl, rfl⟩, ((HU.out.2.2.2.2.2.2.andNu HL.out.2).andSet _ _ (.inl (by show w.heap.size ≤ w.heap.size + 1 + 1; omega))).andSet _ _ (.inl (by show w.heap.size ≤ w.heap.size + 1 + 1 + 1; omega))⟩
  · have hLd := (lrt_iff hL).1 rfl
    obtain ⟨x0, x1, x2, x3⟩ := HU.out.2.2.2.2.2.1
    have RI := rise68 w1 (.slice a1 ks.length c1) ks ((HU.out.2.1.nu HU.out.2.2.2.2.2.2).nu hk1) (by have := HU.out.2.2.2.1; omega)
    rw [HU.out.2.2.1] at RI x1
    have y1 := cell1 (box2 x1 hk1)
    have HX := hide (And.intro (box2 x0 hk1) (And.intro (box2 x1 hk1) (And.intro (box2 x2 hk1) (box2 x3 hk1))))
    have HD2 := hide hLd
    clear hL hk1 x0 x1 x2 x3 hLd
    gi_wp2_with fail
    refine ⟨trivial, (callsIn_wide.2 RI).mono ?_⟩
    rintro e w2 ⟨⟨rb, rfl, hrb⟩, hk2⟩
    clear RI y1
    obtain ⟨x0, x1, x2, x3⟩ := HX.out
    have HR := hide (And.intro hrb hk2)
    cases rb with
    | false =>
      have y2 := cell1 (box2 x2 hk2)
      have y3 := cell1 (box2 x3 hk2)
      have f2 := free3 (box2 x2 hk2) 0
      have f3 := free3 (box2 x3 hk2) 0
      clear hrb hk2 x0 x1 x2 x3
      gi_wp2
      obtain ⟨z2, z3⟩ := set_two (box2 HU.out.2.2.2.2.2.1.2.2.1 (HL.out.2.andNu HR.out.2)) (box2 HU.out.2.2.2.2.2.1.2.2.2 (HL.out.2.andNu HR.out.2)) (by omega) (.slice none 0 0) (.int .i64 151)
      have q2 := cell1 z2
      have q3 := cell1 z3
      refine ⟨.tuple #[.slice none 0 0, .int .i64 151], by simp [results, Tryz.results26, go_sem, q2, q3], _, _, rfl, .inl ⟨fun h => (by have := HR.out.1.2 h.2.2; cases this), rfl, rfl⟩, ((HU.out.2.2.2.2.2.2.andNu (HL.out.2.andNu HR.out.2)).andSet _ _ (.inl (by show w.heap.size ≤ w.heap.size + 1 + 1; omega))).andSet _ _ (.inl (by show w.heap.size ≤ w.heap.size + 1 + 1 + 1; omega))⟩
    | true =>
      clear hrb hk2 x0 x1 x2 x3
      have hris := HR.out.1.1 rfl
      obtain ⟨vt, hTb⟩ : ∃ vt, Tb W4.heap.size w1 b 8192 vt (lays [] M) := by
        rcases HL.out.1 with ⟨h0, _⟩ | ⟨_, i, ⟨h1, _⟩ | ⟨h1, _⟩ | ⟨_, _, _, _, _, b', v', h2, h3⟩⟩
        · exact absurd (by omega) h0
        · cases h1
        · cases h1
        · cases h2; exact ⟨v', h3⟩
      have k3 := HR.out.2.andAlloc (.cells #[.slice none 0 0] 68)
      have AL := all69 (hTb.nu k3)
      have bo := heap_alloc_new w2 (.cells #[.slice none 0 0] 68)
      obtain ⟨T, eT⟩ : ∃ T, lays [] M = T := ⟨_, rfl⟩
      rw [eT] at hTb AL
      have HT := hide (And.intro hTb (And.intro eT (And.intro hris (And.intro k3 bo))))
      clear hTb eT hris k3 bo
      gi_wp2_with fail
      refine ⟨trivial, (callsIn_wide.2 AL).mono ?_⟩
      rintro e w5 ⟨Bn, r, cpn, rfl, hbn, hvr, hk5⟩
      clear AL
      have k5 := HT.out.2.2.2.1.andNu hk5
      obtain ⟨cur, hcur, hrow⟩ := (HT.out.1.nu k5).cur hvr
      have hT8 : T.length ≤ 8192 := by have := HT.out.1.len; have := HT.out.1.lim1; omega
      have SQ := from_q Bn r 0 cpn T cur hT8 hrow w5 hbn hcur
      have hrw : r < w5.heap.size := blk_lt hcur
      have kW : Kp Nu w w5 := (HU.out.2.2.2.2.2.2.andNu HL.out.2).andNu k5
      have I0 : LyI w w5 w2.heap.size r n ks [] w5 := ⟨⟨a1, c1, HU.out.2.1, fun h => HU.out.2.2.2.2.1 _ _ (by rw [h]), by have q := box2 HX.out.2.1 k5; rw [← HU.out.2.2.1] at q; exact q⟩, ⟨_, [], box2 HT.out.2.2.2.2 hk5, rfl, ⟨rfl, rfl, fun i s q h => by simp at h⟩, World.ownsRow_nil _ _ _ _⟩, fun s hs => (by cases hs), box2 HX.out.1 k5, box2 HX.out.2.2.1 k5, box2 HX.out.2.2.2 k5, kW.toBelow, Nat.le_refl _, ⟨_, hcur⟩⟩
      have hws : w.heap.size ≤ w5.heap.size := kW.size
      have hbow : w2.heap.size < w5.heap.size := blk_lt (box2 HT.out.2.2.2.2 hk5)
      have hbo : w.heap.size + 1 + 1 + 1 < w2.heap.size := by
        have h1 := HL.out.2.size
        have h2 := HR.out.2.size
        have h3 : W4.heap.size = w.heap.size + 1 + 1 + 1 + 1 := by rw [← hW4]; simp only [World.size_alloc]
        omega
      generalize w2.heap.size = BO at I0 hbow hbo ⊢
      clear hbn hvr hk5 k5 hcur hrow kW
      gi_wp2_with fail
      refine range_q (gf := 82) rfl (enters_of Tryz.func82 (by kernel_rfl) rfl) SQ (Below.refl _ _) (fun _ => rfl)
        (fun pre V => LyI w w5 BO r n ks pre V) (fun c pre V => LyX w n c pre V) (LyI.own hws) (fun _ => LyX.own hws) I0
        (fun x a' V => ∃ Bx, V.heap[Bx]? = some (.cells #[.int .u64 x.lo, .int .u64 x.hi, .int .u8 x.h] 38 (0, 0)) ∧ a' = { tmps := #[.int .i64 n, .slice ad NM cap, .slice a1 N c1, .pointer (some ⟨w.heap.size, 0, none⟩), undef, .pointer (some ⟨w.heap.size + 1, 0, none⟩), .pointer (some ⟨w.heap.size + 1 + 1, 0, none⟩), .pointer (some ⟨w.heap.size + 1 + 1 + 1, 0, none⟩), .pointer (some ⟨b, 0, none⟩), .int .i64 0, .pointer (some ⟨BO, 0, none⟩), .pointer (some ⟨Bx, 0, none⟩), undef, .tuple #[.pointer (some ⟨b, 0, none⟩), .int .i64 0], .slice ad NM cap, .tuple #[.pointer (some ⟨b, 0, none⟩), .int .i64 0], .pointer (some ⟨b, 0, none⟩), .int .i64 0, .int .i64 0, .bool false, .bool false, .slice a1 N c1, .bool true, .bool false, .bool false, .pointer (some ⟨b, 0, none⟩), .func (.func 82) #[] #[.pointer (some ⟨Bn, 0, none⟩)], enc x, undef, undef, undef, undef, undef, undef, undef, undef, undef, undef, undef, undef, undef, undef, undef, undef, undef, undef, undef, undef, undef], defers := [] })
        (fun x a' _ X Z row hs hg hr => by
          obtain ⟨Bx, h1, h2⟩ := hs
          exact ⟨Bx, own_cells (β := Unit) w5.heap.size Bx _ _ _ () X Z row h1 hg hr, h2⟩)
        ?assign1 ?body1 ?done1 ?stop1
      case assign1 =>
        rintro l' pre x V K hLp hK
        simp only [enc]
        have kV := Kp.alloc V (.cells #[.int .u64 x.lo, .int .u64 x.hi, .int .u8 x.h] 38) Nu
        have HZ := hide (And.intro (hLp.nu kV) kV)
        clear hLp kV
        gi_wp2
        obtain ⟨f1, kV⟩ := HZ.out
        exact hK _ _ (kf_nu _ kV) (kc_nu kV) f1 ⟨V.heap.size, heap_alloc_new V _, rfl⟩
      case stop1 =>
        rintro D c pre V hD hSp hX hK
        obtain rfl := hX.rt
        have HX2 := hide hX
        have HSp := hide hSp
        have nd : ∀ {g : Nat} {cc : Array Value} {ty : TypeId}, V.heap[g]? = some (.cells cc ty (0, 0)) → (V.putObj D (.deferred none)).heap[g]? = some (.cells cc ty (0, 0)) := fun {g cc ty} h => (World.putObj_heap_other (fun e => by subst e; rw [hK] at h; cases h)).trans h
        have q2 := cell1 (nd hX.b2)
        have q3 := cell1 (nd hX.b3)
        have HKP := hide (Kp.of_below (hX.be.trans (belowK_b (w := w) (Nat.le_refl _) V D _ (.deferred none) (Nat.le_trans hws hD) hK rfl rfl)))
        clear hX hSp nd SQ I0
        gi_wp2
        refine ⟨by simp, .inl ⟨_, _, rfl, run_takeDeferred hK, ?_⟩⟩
        refine ⟨.tuple #[.slice none 0 0, .int .i64 151], by simp [results, Tryz.results26, go_sem, q2, q3], _, _, rfl, .inl ⟨fun h => ?_, rfl, rfl⟩, HKP.out⟩
        obtain ⟨s, hs, hsn⟩ := HX2.out.no
        refine hsn (h.2.1 s ?_)
        rw [HT.out.2.1]
        exact HSp.out.subset hs
      case done1 =>
        rintro D ys V hD rfl hI hK
        have HI := hide hI
        obtain ⟨ov, l, o1, o2, o3, o4⟩ := hI.out
        have HO := hide (And.intro o1 (And.intro o2 (And.intro o3 o4)))
        obtain ⟨oa, oc, hov⟩ := own_slice o4
        have y1 := cell1 o1
        have y2 := cell1 hI.b2
        have y3 := cell1 hI.b3
        have f2 := free3 hI.b2 0
        have f3 := free3 hI.b3 0
        subst hov
        have HD : Hid (D ≠ w.heap.size + 1 + 1 ∧ D ≠ w.heap.size + 1 + 1 + 1) := hide ⟨fun e => (by rw [e, hI.b2] at hK; cases hK), fun e => (by rw [e, hI.b3] at hK; cases hK)⟩
        clear hI o1 o2 o3 o4 SQ I0
        gi_wp2
        obtain ⟨z2, z3⟩ := set_two HI.out.b2 HI.out.b3 (by omega) (.slice oa l.length oc) (.int .i64 0)
        have kS : Kp (fun g => g = w.heap.size + 1 + 1 ∨ g = w.heap.size + 1 + 1 + 1) V ((V.setCell ⟨w.heap.size + 1 + 1, 0, none⟩ (.slice oa l.length oc)).setCell ⟨w.heap.size + 1 + 1 + 1, 0, none⟩ (.int .i64 0)) := ((Kp.setCell V ⟨w.heap.size + 1 + 1, 0, none⟩ _).mono (fun _ _ h => .inl h)).trans (Kp.setCell _ ⟨w.heap.size + 1 + 1 + 1, 0, none⟩ _) (fun _ _ h => .inr h)
        have hKS : Below w.heap.size w ((V.setCell ⟨w.heap.size + 1 + 1, 0, none⟩ (.slice oa l.length oc)).setCell ⟨w.heap.size + 1 + 1 + 1, 0, none⟩ (.int .i64 0)) := HI.out.be.trans (kS.below _ HI.out.be.size (fun g hg => by rcases hg with h | h <;> omega))
        have hK2 := (kS.block D (blk_lt hK) (fun e => e.elim HD.out.1 HD.out.2)).trans hK
        have hO2 := own_keep HO.out.2.2.2 (fun g e => kS.block g (own_lt HO.out.2.2.2 e) (fun e2 => by
          obtain ⟨cc, e3⟩ := own_obj HO.out.2.2.2 e
          rcases e2 with rfl | rfl
          · rw [HI.out.b2] at e3; cases e3
          · rw [HI.out.b3] at e3; cases e3))
        generalize (V.setCell ⟨w.heap.size + 1 + 1, 0, none⟩ (.slice oa l.length oc)).setCell ⟨w.heap.size + 1 + 1 + 1, 0, none⟩ (.int .i64 0) = W6 at z2 z3 hKS hK2 hO2 ⊢
        have nd : ∀ {g : Nat} {cc : Array Value} {ty : TypeId}, W6.heap[g]? = some (.cells cc ty (0, 0)) → (W6.putObj D (.deferred none)).heap[g]? = some (.cells cc ty (0, 0)) := fun {g cc ty} h => (World.putObj_heap_other (fun e => by subst e; rw [hK2] at h; cases h)).trans h
        have q2 := cell1 (nd z2)
        have q3 := cell1 (nd z3)
        refine ⟨by simp, .inl ⟨_, _, rfl, run_takeDeferred hK2, ?_⟩⟩
        refine ⟨.tuple #[.slice oa l.length oc, .int .i64 0], by simp [results, Tryz.results26, go_sem, q2, q3], _, _, rfl, .inr ⟨⟨HD2.out, fun s hs => HI.out.hs s (by rw [HT.out.2.1] at hs; exact hs), HT.out.2.2.1⟩, rfl, l, by rw [HT.out.2.1]; exact HO.out.2.1, by rw [HT.out.2.1]; exact HO.out.2.2.1, ?_⟩, Kp.of_below (hKS.trans (belowK_b (w := w) (Nat.le_refl _) W6 D _ _ (Nat.le_trans hws hD) hK2 rfl rfl))⟩
        refine own_base (base := w5.heap.size) ?_ hws
        exact own_keep hO2 (fun g e => by
          obtain ⟨cc, e3⟩ := own_obj hO2 e
          exact (nd e3).trans e3.symm)
      case body1 =>
        rintro l' pre x a' V hl' hq hI ⟨Bx, hX, rfl⟩ hSp
        obtain ⟨a0, a1x, a2⟩ := cell3 hX
        have y0 := cell1 hI.b0
        have hmem : x ∈ T := hSp.subset (by simp)
        have hxb := HT.out.1.tab.hs x hmem
        obtain ⟨h, eh⟩ : ∃ h, x.h = h := ⟨_, rfl⟩
        rw [eh] at a2 hxb
        have hb1 := hxb.1
        have hb2 := hxb.2
        have ec : IntKind.i64.wrap h = h := by rw [IntKind.wrap_i64]; omega
        have HI := hide (And.intro hI (And.intro hX (And.intro hSp eh)))
        have HLp := hide (And.intro hl' hq)
        by_cases hge : h ≥ n
        · have hgd : decide (h ≥ n) = true := by simpa using hge
          have HG := hide hge
          have y2 := cell1 hI.b2
          have y3 := cell1 hI.b3
          have f2 := free3 hI.b2 0
          have f3 := free3 hI.b3 0
          clear hI hX hSp hmem hxb eh hge SQ I0 hl' hq
          gi_wp2
          obtain ⟨z2, z3⟩ := set_two HI.out.1.b2 HI.out.1.b3 (by omega) (.slice none 0 0) (.int .i64 151)
          have kS : Kp (fun g => g = w.heap.size + 1 + 1 ∨ g = w.heap.size + 1 + 1 + 1) V ((V.setCell ⟨w.heap.size + 1 + 1, 0, none⟩ (.slice none 0 0)).setCell ⟨w.heap.size + 1 + 1 + 1, 0, none⟩ (.int .i64 151)) := ((Kp.setCell V ⟨w.heap.size + 1 + 1, 0, none⟩ _).mono (fun _ _ h => .inl h)).trans (Kp.setCell _ ⟨w.heap.size + 1 + 1 + 1, 0, none⟩ _) (fun _ _ h => .inr h)
          refine ⟨kf_cells kS (fun g hg => ?_), rfl, ⟨x, by simp, ?_⟩, z2, z3, HI.out.1.be.trans (kS.below _ HI.out.1.be.size (fun g hg => by rcases hg with h | h <;> omega))⟩
          · rcases hg with rfl | rfl
            · exact ⟨_, _, _, HI.out.1.b2⟩
            · exact ⟨_, _, _, HI.out.1.b3⟩
          · have h1 := HI.out.2.2.2
            have h2 := HG.out
            omega
        · have hgd : decide (h ≥ n) = false := by simpa using hge
          have HG := hide hge
          obtain ⟨ka, kc, k1, k2, k3⟩ := hI.ky
          have y1 := cell1 k3
          have hkk := rst_len pre ks
          have hRl : (rst pre ks).length ≤ 140737488351232 := by have := HU.out.2.2.2.1; omega
          have kVw : Us V (.slice ka (rst pre ks).length kc) (rst pre ks) := by
            obtain ⟨a, cap', h0, h2, h1⟩ := k1
            exact ⟨a, cap', h0, h2, fun j y hy => by obtain ⟨bb, e1, e2⟩ := h1 j y hy; exact ⟨bb, e1, (World.cell?_of_block (hI.be.block _ (World.block_lt_of_cell? w _ e2))).trans e2⟩⟩
          have SE := search70 V (w.heap.size + 1) Bx _ (rst pre ks) x (rst_ris pre HT.out.2.2.1) kVw k3 hX hRl
          obtain ⟨R, eR⟩ : ∃ R, (rst pre ks).length = R := ⟨_, rfl⟩
          rw [eR] at y1 SE hRl
          have HKY := hide (And.intro k1 (And.intro k2 (And.intro k3 (And.intro kVw eR))))
          clear hI hX hSp hmem hxb eh hge SQ I0 hl' hq k1 k2 k3 kVw hkk
          gi_wp2_with fail
          refine ⟨trivial, (CallsIn.inRound l' (callsIn_wide.2 SE)).mono ?_⟩
          rintro e V1 ⟨rfl, hkv⟩
          have hwl := wth_le (rst pre ks) x.hi
          rw [HKY.out.2.2.2.2] at hwl
          obtain ⟨q, eq⟩ : ∃ q, wth (rst pre ks) x.hi = q := ⟨_, rfl⟩
          rw [eq] at hwl ⊢
          have HQ := hide (And.intro eq hkv)
          clear SE eq y0 y1 a0 a1x a2
          obtain ⟨ov, l, o1, o2, o3, o4⟩ := HI.out.1.out
          obtain ⟨oa, oc, hov⟩ := own_slice o4
          have HO := hide (And.intro o1 (And.intro o2 (And.intro o3 o4)))
          have hqI : (q : Int) ≤ (R : Int) := by omega
          have hq0 : (0 : Int) ≤ (q : Int) := by omega
          have etq : (q : Int).toNat = q := by omega
          have hRc : R ≤ kc := by have := HKY.out.1.cap; rw [HKY.out.2.2.2.2] at this; exact this
          have hqc : (q : Int) ≤ (kc : Int) := by omega
          have hqcN : q ≤ kc := by omega
          subst hov
          obtain ⟨LN, eLN⟩ : ∃ LN, l.length = LN := ⟨_, rfl⟩
          rw [eLN] at o1 o4
          have o1v := box2 o1 hkv
          have kxv := box2 HI.out.2.1 hkv
          rw [HI.out.2.2.2] at kxv
          have k3v := box2 HKY.out.2.2.1 hkv
          rw [HKY.out.2.2.2.2] at k3v
          have o4v : V1.ownsRow w5.heap.size 99 4 (.slice oa LN oc) LN (cellsT l) := own_keep o4 (fun g e => hkv.block g (own_lt o4 e) (fun h => h))
          have hLN : LN ≤ 8192 := by
            have h1 := HI.out.2.2.1.length_le
            have h2 := congrArg List.length o2
            simp only [List.length_append, List.length_map, List.length_singleton] at h1 h2
            omega
          have HR : Hid (∀ w', Kp Nu V1 w' → w'.cell? ⟨BO, 0, none⟩ = some (.slice oa LN oc) ∧ (w'.cell? ⟨Bx, 0, none⟩ = some (.int .u64 x.lo) ∧ w'.cell? ⟨Bx, 1, none⟩ = some (.int .u64 x.hi) ∧ w'.cell? ⟨Bx, 2, none⟩ = some (.int .u8 h)) ∧ w'.cell? ⟨w.heap.size + 1, 0, none⟩ = some (.slice ka R kc)) := fun w' k =>
            ⟨cell1 (box2 o1v k), cell3 (box2 kxv k), cell1 (box2 k3v k)⟩
          obtain ⟨OUA, hOUA⟩ : ∃ OUA : Option Addr → Nat → World → Prop, OUA = fun va vc w' => w'.ownsRow w5.heap.size 99 4 (.slice va (LN + 1) vc) (LN + 1) (cellsT l ++ [.int .u64 x.lo, .int .u64 x.hi, .int .u8 h, .slice ka q kc]) ∧ Kp (fun g => some g = (Value.slice oa LN oc).ownBlock) V1 w' := ⟨_, rfl⟩
          obtain ⟨OUT, hOUT⟩ : ∃ OUT : World → Prop, OUT = fun w' => ∃ va vc w7, OUA va vc w7 ∧ w' = w7.setCell ⟨BO, 0, none⟩ (.slice va (LN + 1) vc) := ⟨_, rfl⟩
          have hw5v : w5.heap.size ≤ V1.heap.size := Nat.le_trans HI.out.1.w5le hkv.size
          have hBOne : ∀ g, (Value.slice oa LN oc).ownBlock = some g → g ≠ BO := fun g e e2 => by
            obtain ⟨cc, e3⟩ := own_obj o4v e
            rw [e2, o1v] at e3; cases e3
          have HU : Hid (∀ w' Bs, Kp Nu V1 w' → Hid (w'.heap[Bs]? = some (.cells #[.int .u64 x.lo, .int .u64 x.hi, .int .u8 h, .slice ka q kc] 99 (0, 0))) → ∃ va vc W2, (Builtin.append_ #[68, 68] 68 #[.slice oa LN oc, .slice (some ⟨Bs, 0, none⟩) 1 1]).run Tryz.prog w' = .ok (.slice va (LN + 1) vc) W2 ∧ Hid (OUA va vc W2)) := fun w' Bs k hB => by
            obtain ⟨i0, hi0, hz0, hz1, hz2⟩ := info_parts info129
            have hown := own_keep o4v (fun g e => k.block g (own_lt o4v e) (fun h => h))
            obtain ⟨v', W2, hrun, h1, h2, _⟩ := run_append_own (P := Tryz.prog) w' w5.heap.size 68 68 99 i0 _ 4 48 Tryz.underlying68 hi0 hz0 hz1 hz2 rfl (by decide) _ LN _ hown ⟨Bs, 0, none⟩ 1 1 [.int .u64 x.lo, .int .u64 x.hi, .int .u8 h, .slice ka q kc] rfl (cell_four_at hB) (by simp [Value.oneCell']) (by unfold maxLen; omega) (by omega) (Nat.le_trans hw5v k.size)
            obtain ⟨va, vc, rfl⟩ := own_slice h1
            refine ⟨va, vc, W2, hrun, ?_⟩
            show OUA va vc W2
            rw [hOUA]
            exact ⟨h1, (k.mono (fun _ _ h => h.elim)).trans (Kp.of_grown h2) (fun i _ e => e)⟩
          have HV : Hid (∀ va vc w', Hid (OUA va vc w') → w'.cell? ⟨BO, 0, none⟩ = some (.slice oa LN oc) ∧ w'.frozen? ⟨BO, 0, none⟩ = false ∧ Hid (OUT (w'.setCell ⟨BO, 0, none⟩ (.slice va (LN + 1) vc)))) := fun va vc w' hO => by
            have hO2 : OUA va vc w' := hO
            rw [hOUA] at hO2
            have hb := (hO2.2.block BO (blk_lt o1v) (fun e => hBOne BO e.symm rfl)).trans o1v
            refine ⟨cell1 hb, free3 hb 0, ?_⟩
            show OUT _
            rw [hOUT]
            exact ⟨va, vc, w', hO, rfl⟩
          have HZ := hide (And.intro hOUA (And.intro hOUT (And.intro o1v (And.intro o4v (And.intro eLN (And.intro k3v (And.intro hBOne hkv)))))))
          clear o1 o2 o3 o4 hkv o1v kxv k3v o4v hOUA hOUT hBOne hw5v eLN
          gi_wp2_with fail
          refine wpIn_region_any (by assumption) ?_
          change wpAnyIn _ _ _ _ _ _ _ _ _ (World.drew _)
          refine Ord.wpAnyIn_inv (Inv := fun listed a w' => ∃ (l0 l1 l2 l3 l4 l5 l6 l7 l8 : Bool) (Bs : Nat) (va : Option Addr) (vc : Nat), listed = #[l0, l1, l2, l3, l4, l5, l6, l7, l8] ∧ a = { tmps := #[.int .i64 n, .slice ad NM cap, .slice a1 N c1, .pointer (some ⟨w.heap.size, 0, none⟩), undef, .pointer (some ⟨w.heap.size + 1, 0, none⟩), .pointer (some ⟨w.heap.size + 1 + 1, 0, none⟩), .pointer (some ⟨w.heap.size + 1 + 1 + 1, 0, none⟩), .pointer (some ⟨b, 0, none⟩), .int .i64 0, .pointer (some ⟨BO, 0, none⟩), .pointer (some ⟨Bx, 0, none⟩), .int .i64 (q : Int), .tuple #[.pointer (some ⟨b, 0, none⟩), .int .i64 0], .slice ad NM cap, .tuple #[.pointer (some ⟨b, 0, none⟩), .int .i64 0], .pointer (some ⟨b, 0, none⟩), .int .i64 0, .int .i64 0, .bool false, .bool false, .slice a1 N c1, .bool true, .bool false, .bool false, .pointer (some ⟨b, 0, none⟩), .func (.func 82) #[] #[.pointer (some ⟨Bn, 0, none⟩)], enc x, .pointer (some ⟨Bx, 2, none⟩), .int .u8 h, .int .i64 h, .int .i64 n, .bool false, .slice ka R kc, .int .i64 (R : Int), .func (.func 46) #[] #[.pointer (some ⟨w.heap.size + 1, 0, none⟩), .pointer (some ⟨Bx, 0, none⟩)], .int .i64 (q : Int), Ord.sel l0 (.slice oa LN oc), Ord.sel l1 (.agg #[.int .u64 x.lo, .int .u64 x.hi, .int .u8 h]), Ord.sel l2 (.slice ka R kc), Ord.sel l3 (.int .i64 (q : Int)), Ord.sel l4 (.slice ka q kc), Ord.sel l5 (.agg #[.int .u64 x.lo, .int .u64 x.hi, .int .u8 h, .slice ka q kc]), Ord.sel l6 (.slice (some ⟨Bs, 0, none⟩) 1 1), Ord.sel l7 (.slice va (LN + 1) vc), undef, undef, undef, undef], defers := [] } ∧ (l4 = true → l2 = true ∧ l3 = true) ∧ (l5 = true → l1 = true ∧ l4 = true) ∧ (l6 = true → l5 = true) ∧ (l7 = true → l0 = true ∧ l6 = true) ∧ (l8 = true → l7 = true ∧ l0 = true ∧ l1 = true ∧ l2 = true ∧ l3 = true ∧ l4 = true ∧ l5 = true ∧ l6 = true) ∧ (l7 = false → Kp Nu V1 w') ∧ (l6 = true → l7 = false → Hid (w'.heap[Bs]? = some (.cells #[.int .u64 x.lo, .int .u64 x.hi, .int .u8 h, .slice ka q kc] 99 (0, 0)))) ∧ (l7 = true → l8 = false → Hid (OUA va vc w')) ∧ (l8 = true → Hid (OUT w'))) ?step ?fin _ _ _ _ ?start ?count
          case start => exact ⟨false, false, false, false, false, false, false, false, false, 0, none, 0, rfl, rfl, (fun h => by cases h), (fun h => by cases h), (fun h => by cases h), (fun h => by cases h), (fun h => by cases h), fun _ => (Kp.refl Nu V1).drew, (fun h => by cases h), (fun h => by cases h), (fun h => by cases h)⟩
          case count => decide
          case step =>
            rintro listed a w' i ⟨l0, l1, l2, l3, l4, l5, l6, l7, l8, Bs, va, vc, rfl, rfl, c4, c5, c6, c7, c8, hw0, hw1, hw2, hw3⟩ hi'
            obtain ⟨hlt', hb⟩ := Ord.mem_ready hi'
            rcases lt_cases9 hlt' with rfl | rfl | rfl | rfl | rfl | rfl | rfl | rfl | rfl
            all_goals simp [Region.binds] at hb
            · have q0 := hb
              have f7 : l7 = false := by cases hh : l7 with | false => rfl | true => exact absurd ((c7 hh).1) (by rw [q0]; simp)
              have f8 : l8 = false := by cases hh : l8 with | false => rfl | true => exact absurd ((c8 hh).1) (by rw [f7]; simp)
              have hk := hw0 f7
              have H1 := hide hw1
              clear hw0 hw1 hw2 hw3
              have z4 := (HR.out _ hk).1
              clear hi' hlt'
              subst q0 f7 f8
              have H4c := hide c4; clear c4
              have H5c := hide c5; clear c5
              have H6c := hide c6; clear c6
              clear c7
              clear c8
              refine wpOpIn_step rfl (fun K hK => ?_)
              simp only [Ord.sel_f]
              go_simp
              refine hK _ _ ?_
              exact ⟨true, _, _, _, _, _, _, false, false, Bs, va, vc, rfl, rfl, H4c.out, H5c.out, H6c.out, (fun h => by cases h), (fun h => by cases h), fun _ => hk, H1.out, (fun h => by cases h), (fun h => by cases h)⟩
            · have q1 := hb
              have f5 : l5 = false := by cases hh : l5 with | false => rfl | true => exact absurd ((c5 hh).1) (by rw [q1]; simp)
              have f6 : l6 = false := by cases hh : l6 with | false => rfl | true => exact absurd ((c6 hh)) (by rw [f5]; simp)
              have f7 : l7 = false := by cases hh : l7 with | false => rfl | true => exact absurd ((c7 hh).2) (by rw [f6]; simp)
              have f8 : l8 = false := by cases hh : l8 with | false => rfl | true => exact absurd ((c8 hh).1) (by rw [f7]; simp)
              have hk := hw0 f7
              clear hw0 hw1 hw2 hw3
              obtain ⟨z0, z1, z2⟩ := (HR.out _ hk).2.1
              clear hi' hlt'
              subst q1 f5 f6 f7 f8
              have H4c := hide c4; clear c4
              clear c5
              clear c6
              clear c7
              clear c8
              refine wpOpIn_step rfl (fun K hK => ?_)
              simp only [Ord.sel_f]
              go_simp
              refine hK _ _ ?_
              exact ⟨_, true, _, _, _, false, false, false, false, Bs, va, vc, rfl, rfl, H4c.out, (fun h => by cases h), (fun h => by cases h), (fun h => by cases h), (fun h => by cases h), fun _ => hk, (fun h => by cases h), (fun h => by cases h), (fun h => by cases h)⟩
            · have q2 := hb
              have f4 : l4 = false := by cases hh : l4 with | false => rfl | true => exact absurd ((c4 hh).1) (by rw [q2]; simp)
              have f5 : l5 = false := by cases hh : l5 with | false => rfl | true => exact absurd ((c5 hh).2) (by rw [f4]; simp)
              have f6 : l6 = false := by cases hh : l6 with | false => rfl | true => exact absurd ((c6 hh)) (by rw [f5]; simp)
              have f7 : l7 = false := by cases hh : l7 with | false => rfl | true => exact absurd ((c7 hh).2) (by rw [f6]; simp)
              have f8 : l8 = false := by cases hh : l8 with | false => rfl | true => exact absurd ((c8 hh).1) (by rw [f7]; simp)
              have hk := hw0 f7
              clear hw0 hw1 hw2 hw3
              have z1 := (HR.out _ hk).2.2
              clear hi' hlt'
              subst q2 f4 f5 f6 f7 f8
              clear c4
              clear c5
              clear c6
              clear c7
              clear c8
              refine wpOpIn_step rfl (fun K hK => ?_)
              simp only [Ord.sel_f]
              go_simp
              refine hK _ _ ?_
              exact ⟨_, _, true, _, false, false, false, false, false, Bs, va, vc, rfl, rfl, (fun h => by cases h), (fun h => by cases h), (fun h => by cases h), (fun h => by cases h), (fun h => by cases h), fun _ => hk, (fun h => by cases h), (fun h => by cases h), (fun h => by cases h)⟩
            · have q3 := hb
              have f4 : l4 = false := by cases hh : l4 with | false => rfl | true => exact absurd ((c4 hh).2) (by rw [q3]; simp)
              have f5 : l5 = false := by cases hh : l5 with | false => rfl | true => exact absurd ((c5 hh).2) (by rw [f4]; simp)
              have f6 : l6 = false := by cases hh : l6 with | false => rfl | true => exact absurd ((c6 hh)) (by rw [f5]; simp)
              have f7 : l7 = false := by cases hh : l7 with | false => rfl | true => exact absurd ((c7 hh).2) (by rw [f6]; simp)
              have f8 : l8 = false := by cases hh : l8 with | false => rfl | true => exact absurd ((c8 hh).1) (by rw [f7]; simp)
              have hk := hw0 f7
              clear hw0 hw1 hw2 hw3
              clear hi' hlt'
              subst q3 f4 f5 f6 f7 f8
              clear c4
              clear c5
              clear c6
              clear c7
              clear c8
              refine wpOpIn_step rfl (fun K hK => ?_)
              simp only [Ord.sel_f]
              go_simp
              refine hK _ _ ?_
              exact ⟨_, _, _, true, false, false, false, false, false, Bs, va, vc, rfl, rfl, (fun h => by cases h), (fun h => by cases h), (fun h => by cases h), (fun h => by cases h), (fun h => by cases h), fun _ => hk, (fun h => by cases h), (fun h => by cases h), (fun h => by cases h)⟩
            · obtain ⟨q4, e2, e3⟩ := hb
              have f5 : l5 = false := by cases hh : l5 with | false => rfl | true => exact absurd ((c5 hh).2) (by rw [q4]; simp)
              have f6 : l6 = false := by cases hh : l6 with | false => rfl | true => exact absurd ((c6 hh)) (by rw [f5]; simp)
              have f7 : l7 = false := by cases hh : l7 with | false => rfl | true => exact absurd ((c7 hh).2) (by rw [f6]; simp)
              have f8 : l8 = false := by cases hh : l8 with | false => rfl | true => exact absurd ((c8 hh).1) (by rw [f7]; simp)
              have hk := hw0 f7
              clear hw0 hw1 hw2 hw3
              clear hi' hlt'
              subst q4 e2 e3 f5 f6 f7 f8
              clear c4
              clear c5
              clear c6
              clear c7
              clear c8
              refine wpOpIn_step rfl (fun K hK => ?_)
              simp only [Ord.sel_t, Ord.sel_f]
              go_simp
              refine hK _ _ ?_
              exact ⟨_, _, true, true, true, false, false, false, false, Bs, va, vc, rfl, rfl, fun _ => ⟨rfl, rfl⟩, (fun h => by cases h), (fun h => by cases h), (fun h => by cases h), (fun h => by cases h), fun _ => hk, (fun h => by cases h), (fun h => by cases h), (fun h => by cases h)⟩
            · obtain ⟨q5, e1, e4⟩ := hb
              obtain ⟨e2, e3⟩ := c4 e4
              have f6 : l6 = false := by cases hh : l6 with | false => rfl | true => exact absurd ((c6 hh)) (by rw [q5]; simp)
              have f7 : l7 = false := by cases hh : l7 with | false => rfl | true => exact absurd ((c7 hh).2) (by rw [f6]; simp)
              have f8 : l8 = false := by cases hh : l8 with | false => rfl | true => exact absurd ((c8 hh).1) (by rw [f7]; simp)
              have hk := hw0 f7
              clear hw0 hw1 hw2 hw3
              clear hi' hlt'
              subst q5 e1 e2 e3 e4 f6 f7 f8
              clear c4
              clear c5
              clear c6
              clear c7
              clear c8
              refine wpOpIn_step rfl (fun K hK => ?_)
              simp only [Ord.sel_t, Ord.sel_f]
              go_simp
              refine hK _ _ ?_
              exact ⟨_, true, true, true, true, true, false, false, false, Bs, va, vc, rfl, rfl, fun _ => ⟨rfl, rfl⟩, fun _ => ⟨rfl, rfl⟩, (fun h => by cases h), (fun h => by cases h), (fun h => by cases h), fun _ => hk, (fun h => by cases h), (fun h => by cases h), (fun h => by cases h)⟩
            · obtain ⟨q6, e5⟩ := hb
              obtain ⟨e1, e4⟩ := c5 e5
              obtain ⟨e2, e3⟩ := c4 e4
              have f7 : l7 = false := by cases hh : l7 with | false => rfl | true => exact absurd ((c7 hh).2) (by rw [q6]; simp)
              have f8 : l8 = false := by cases hh : l8 with | false => rfl | true => exact absurd ((c8 hh).1) (by rw [f7]; simp)
              have hk := hw0 f7
              clear hw0 hw1 hw2 hw3
              clear hi' hlt'
              subst q6 e1 e2 e3 e4 e5 f7 f8
              clear c4
              clear c5
              clear c6
              clear c7
              clear c8
              refine wpOpIn_step rfl (fun K hK => ?_)
              simp only [Ord.sel_t, Ord.sel_f]
              go_simp
              refine hK _ _ ?_
              exact ⟨_, true, true, true, true, true, true, false, false, _, va, vc, rfl, rfl, fun _ => ⟨rfl, rfl⟩, fun _ => ⟨rfl, rfl⟩, fun _ => rfl, (fun h => by cases h), (fun h => by cases h), fun _ => hk.andAlloc _, (fun _ _ => hide (heap_alloc_new _ _)), (fun h => by cases h), (fun h => by cases h)⟩
            · obtain ⟨q7, e0, e6⟩ := hb
              obtain e5 := c6 e6
              obtain ⟨e1, e4⟩ := c5 e5
              obtain ⟨e2, e3⟩ := c4 e4
              have f8 : l8 = false := by cases hh : l8 with | false => rfl | true => exact absurd ((c8 hh).1) (by rw [q7]; simp)
              have hk := hw0 q7
              have hB := hw1 e6 q7
              clear hw0 hw1 hw2 hw3
              obtain ⟨va7, vc7, W2, hrun, hA⟩ := HU.out _ _ hk hB
              clear hi' hlt'
              subst q7 e0 e1 e2 e3 e4 e5 e6 f8
              clear c4
              clear c5
              clear c6
              clear c7
              clear c8
              simp only [Ord.sel_t, Ord.sel_f]
              refine Ord.wpOpIn_append rfl rfl (.tmp 37) (.tmp 43) 68 rfl _ _ _ rfl rfl hrun ?_
              exact ⟨true, true, true, true, true, true, true, true, false, Bs, _, _, rfl, rfl, fun _ => ⟨rfl, rfl⟩, fun _ => ⟨rfl, rfl⟩, fun _ => rfl, fun _ => ⟨rfl, rfl⟩, (fun h => by cases h), (fun h => by cases h), (fun _ h => by cases h), (fun _ _ => hA), (fun h => by cases h)⟩
            · have q8 : l8 = false := by clear hw0 hw1 hw2 hw3; first | exact hb.1 | (cases l8 <;> simp_all)
              have e7 : l7 = true := by clear hw0 hw1 hw2 hw3; (cases l7 <;> simp_all)
              have e0 : l0 = true := by clear hw0 hw1 hw2 hw3; (cases l0 <;> simp_all)
              have e1 : l1 = true := by clear hw0 hw1 hw2 hw3; (cases l1 <;> simp_all)
              have e2 : l2 = true := by clear hw0 hw1 hw2 hw3; (cases l2 <;> simp_all)
              have e3 : l3 = true := by clear hw0 hw1 hw2 hw3; (cases l3 <;> simp_all)
              have e4 : l4 = true := by clear hw0 hw1 hw2 hw3; (cases l4 <;> simp_all)
              have e5 : l5 = true := by clear hw0 hw1 hw2 hw3; (cases l5 <;> simp_all)
              have e6 : l6 = true := by clear hw0 hw1 hw2 hw3; (cases l6 <;> simp_all)
              have hO := hw2 e7 q8
              clear hw0 hw1 hw2 hw3 hb
              obtain ⟨z8, z9, hS⟩ := HV.out _ _ _ hO
              clear hi' hlt'
              subst q8 e0 e1 e2 e3 e4 e5 e6 e7
              clear c4
              clear c5
              clear c6
              clear c7
              clear c8
              refine wpOpIn_step rfl (fun K hK => ?_)
              simp only [Ord.sel_t]
              go_simp
              refine hK _ _ ?_
              exact ⟨true, true, true, true, true, true, true, true, true, Bs, va, vc, rfl, rfl, fun _ => ⟨rfl, rfl⟩, fun _ => ⟨rfl, rfl⟩, fun _ => rfl, fun _ => ⟨rfl, rfl⟩, fun _ => ⟨rfl, rfl, rfl, rfl, rfl, rfl, rfl, rfl⟩, (fun h => by cases h), (fun _ h => by cases h), (fun _ h => by cases h), (fun _ => hS)⟩
          case fin =>
            rintro listed a w' ⟨l0, l1, l2, l3, l4, l5, l6, l7, l8, Bs, va, vc, rfl, rfl, c4, c5, c6, c7, c8, hw0, hw1, hw2, hw3⟩ hi'
            have hx := fun i => Ord.not_ready hi' (i := i)
            have g0 : l0 = true := by have g := hx 0 (by simp); simp [Region.binds] at g; exact g
            have g1 : l1 = true := by have g := hx 1 (by simp); simp [Region.binds] at g; exact g
            have g2 : l2 = true := by have g := hx 2 (by simp); simp [Region.binds] at g; exact g
            have g3 : l3 = true := by have g := hx 3 (by simp); simp [Region.binds] at g; exact g
            have g4 : l4 = true := by have g := hx 4 (by simp); simp [Region.binds] at g; cases hh : l4 with | true => rfl | false => exact absurd (g hh g2) (by rw [g3]; simp)
            have g5 : l5 = true := by have g := hx 5 (by simp); simp [Region.binds] at g; cases hh : l5 with | true => rfl | false => exact absurd (g hh g1) (by rw [g4]; simp)
            have g6 : l6 = true := by have g := hx 6 (by simp); simp [Region.binds] at g; cases hh : l6 with | true => rfl | false => exact absurd (g hh ) (by rw [g5]; simp)
            have g7 : l7 = true := by have g := hx 7 (by simp); simp [Region.binds] at g; cases hh : l7 with | true => rfl | false => exact absurd (g hh g0) (by rw [g6]; simp)
            have g8 : l8 = true := by have g := hx 8 (by simp); simp [Region.binds] at g; clear hw0 hw1 hw2 hw3; (cases l8 <;> simp_all)
            subst g0 g1 g2 g3 g4 g5 g6 g7 g8
            have hO := hw3 rfl
            clear c4 c5 c6 c7 c8 hi' hx hw0 hw1 hw2 hw3
            simp only [Ord.sel_t]
            obtain ⟨hOUA, hOUT, o1v, o4v, eLN, k3v, hBOne, hkv⟩ := HZ.out
            have hO2 : OUT w' := hO
            rw [hOUT] at hO2
            obtain ⟨va', vc', w7, hA, rfl⟩ := hO2
            rw [hOUA] at hA
            have hne1 : w.heap.size + 1 ≠ BO := fun e => by rw [e, o1v] at k3v; cases k3v
            have kS : Kp (fun g => g = BO ∨ some g = (Value.slice oa LN oc).ownBlock) V1 (w7.setCell ⟨BO, 0, none⟩ (.slice va' (LN + 1) vc')) := (hA.2.mono (fun _ _ h => .inr h)).trans (Kp.setCell _ ⟨BO, 0, none⟩ _) (fun _ _ h => .inl h)
            have k3w := (kS.block (w.heap.size + 1) (blk_lt k3v) (fun e => by
              rcases e with e | e
              · exact hne1 e
              · obtain ⟨cc, e3⟩ := own_obj o4v e.symm
                rw [k3v] at e3; cases e3)).trans k3v
            have z1 := cell1 k3w
            have f1 := free3 k3w 0
            have HY := hide (And.intro hA (And.intro kS (And.intro k3w (And.intro o1v (And.intro o4v (And.intro eLN (And.intro hBOne (And.intro hkv hne1))))))))
            obtain ⟨W8, hW8⟩ : ∃ W8, w7.setCell ⟨BO, 0, none⟩ (.slice va' (LN + 1) vc') = W8 := ⟨_, rfl⟩
            rw [hW8] at z1 f1 ⊢
            have HW8 := hide hW8
            clear hW8
            clear hOUA hOUT o1v o4v eLN k3v hBOne hkv hA kS k3w hO HZ HR HU HV hne1
            gi_wp2
            · obtain ⟨hA, kS, k3w, o1v, o4v, eLN, hBOne, hkv, hne1⟩ := HY.out
              rw [← HI.out.2.2.2] at hA
              have hsn := rst_snoc pre x ks
              rw [HQ.out.1] at hsn
              rw [← HW8.out]
              refine LyI.step HI.out.1 hkv o1v o4v HO.out.2.1 HO.out.2.2.1 eLN hA.1 hA.2 (by have h := box2 HKY.out.2.2.1 hkv; exact h) HQ.out.1 (us_take HKY.out.1 (by rw [HKY.out.2.2.2.2]; omega)) (by rw [HI.out.2.2.2]; have := HG.out; omega) hbo hws ⟨ka, 0, ?_, ?_, fun _ => rfl⟩
              · rw [hsn, List.length_drop, HKY.out.2.2.2.2]
              · rw [hsn]; exact us_end HKY.out.2.2.2.2 (by omega)
            · obtain ⟨hA, kS, k3w, o1v, o4v, eLN, hBOne, hkv, hne1⟩ := HY.out
              rw [← HI.out.2.2.2] at hA
              have hsn := rst_snoc pre x ks
              rw [HQ.out.1] at hsn
              have hU0 := HKY.out.1
              rw [HKY.out.2.2.2.2] at hU0
              rw [← HW8.out]
              refine LyI.step HI.out.1 hkv o1v o4v HO.out.2.1 HO.out.2.2.1 eLN hA.1 hA.2 (by have h := box2 HKY.out.2.2.1 hkv; exact h) HQ.out.1 (us_take HKY.out.1 (by rw [HKY.out.2.2.2.2]; omega)) (by rw [HI.out.2.2.2]; have := HG.out; omega) hbo hws ⟨Option.map (fun x => x.add q) ka, kc - q, ?_, ?_, fun e => ?_⟩
              · rw [hsn, List.length_drop, HKY.out.2.2.2.2]
              · rw [hsn]; exact us_drop hU0 HKY.out.2.2.2.2 (by omega)
              · have h0 : ka = none := by cases ka with
                  | none => rfl
                  | some a => cases e
                have := HKY.out.2.1 h0
                omega
end Go.Proofs.YtbifmcadllilhaaGreat.Rg
