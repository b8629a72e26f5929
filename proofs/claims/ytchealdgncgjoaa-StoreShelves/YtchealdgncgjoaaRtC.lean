import Derived.Test.YtchealdgncgjoaaRsJ
import Derived.Test.YtchealdgncgjoaaRtA
import Derived.Maps.AppendAt
namespace Go.Proofs.Ytchealdgncgjoaa.StU
open Go.RowKit Go.Proofs.Ytchealdgncgjoaa.St Go.Shelf Go.Maps
set_option linter.unusedVariables false
set_option linter.unusedSimpArgs false
/-- what an append leaves of the block g that it was made on: the first cells as they were, and no value there that wasn't there and wasn't appended -/
structure Rw (w w' : World) (g : Nat) (e : TypeId) (n : Nat) (news : List Value) : Prop where
  obj : ∀ cur, w.heap[g]? = some (.cells cur e (0, 0)) → ∃ cur' : Array Value, w'.heap[g]? = some (.cells cur' e (0, 0)) ∧ cur'.size = cur.size ∧ cur'.toList.take n = cur.toList.take n ∧ ∀ (j : Nat) (u : Value), cur'.toList[j]? = some u → cur.toList[j]? = some u ∨ u ∈ news

theorem Rw.same {w w' : World} {g : Nat} {e : TypeId} {n : Nat} {news : List Value} (h : w'.heap[g]? = w.heap[g]?) : Rw w w' g e n news :=
  ⟨fun cur hc => ⟨cur, h.trans hc, rfl, rfl, fun _ _ hu => .inl hu⟩⟩

section
variable {P : Program} (w : World)

theorem run_append_row (base : Nat) (t ty e : TypeId) (i : TypeInfo) (z : Value) (size bytes : Nat) (ht : P.underlying t = some (.slice e)) (hi : P.info? e = some i) (hz : i.zero = some z)
    (hsize : i.size = size) (hby : i.bytes = bytes) (hzs : z.cells.size = size) (hsz : 0 < size)
    (v : Value) (n : Nat) (xs : List Value) (hown : w.ownsRow base e size v n xs)
    (a : Addr) (m c : Nat) (news : List Value) (hl : news.length = m * size) (hnews : ∀ j u, news[j]? = some u → w.cell? (a.add j) = some u) (h1 : ∀ u ∈ news, u.oneCell' = true)
    (h63 : n + m ≤ maxLen) (hbytes : (n + m) * bytes ≤ 140737488355328) (hbase : base ≤ w.heap.size) :
    ∃ v' w', (Builtin.append_ #[t, t] ty #[v, .slice (some a) m c]).run P w = .ok v' w' ∧ w'.ownsRow base e size v' (n + m) (xs ++ news) ∧ w.grownBy w' v.ownBlock ∧
      (v'.ownBlock = v.ownBlock ∨ v'.ownBlock = some w.heap.size) ∧ (∀ g, v.ownBlock = some g → Rw w w' g e (n * size) news) := by
  obtain ⟨v', w', hr, h2, h3, _, h5⟩ := run_append_own_at (P := P) w base t ty e i z size bytes ht hi hz hsize hby hzs hsz v n xs hown a m c news hl hnews h1 h63 hbytes hbase
  refine ⟨v', w', hr, h2, h3, h5, ?_⟩
  intro g hg
  subst hsize
  rcases hown.2 with ⟨rfl, rfl⟩ | ⟨g', cap, cur, rfl, hbg, hgc, hnc, hcm, hcs, htake⟩
  · simp [Value.ownBlock] at hg
  · simp only [Value.ownBlock, Option.some.injEq] at hg
    subst hg
    by_cases hroom : n + m ≤ cap
    · have hfit : n * i.size + news.length ≤ cur.size := by rw [hl, hcs, ← Nat.add_mul]; exact Nat.mul_le_mul_right _ hroom
      have hq := run_append_room (P := P) w t ty e i ht hi g' n cap cur hgc a m c news hl hnews h1 hroom hfit
      have he := hr.symm.trans hq
      simp only [Result.ok.injEq] at he
      obtain ⟨_, rfl⟩ := he
      refine ⟨fun cur0 h0 => ?_⟩
      have hcc : cur0 = cur := by rw [hgc] at h0; simpa using h0.symm
      subst hcc
      have hlt : (cur0.toList.take (n * i.size)).length = n * i.size := by rw [List.length_take, Array.length_toList]; omega
      refine ⟨_, setRow_heap w g' cur0 _ e _ hgc, ?_, ?_, ?_⟩
      · simp only [List.size_toArray, List.length_append, List.length_take, List.length_drop, Array.length_toList]
        omega
      · rw [List.append_assoc]
        conv => lhs; rw [← hlt]
        rw [hlt]
        exact List.take_left' hlt
      · intro j u hu
        simp only [List.append_assoc] at hu
        rw [List.getElem?_append] at hu
        split at hu
        · exact .inl (by rw [List.getElem?_take] at hu; split at hu <;> simp_all)
        · rw [List.getElem?_append] at hu
          split at hu
          · exact .inr (List.mem_of_getElem? hu)
          · rw [List.getElem?_drop] at hu
            left
            rw [← hu]
            congr 1
            omega
    · exact Rw.same (by
        have hq := run_append_grow (P := P) w t ty e i z ht hi hz ⟨g', 0, none⟩ n cap xs hown.1 (hown.cells (g := g') rfl) a m c news hl hnews (by omega) (by simp only [maxLen] at h63; omega) (growslice_fits (by omega) (by rw [hby]; exact hbytes))
        have he := hr.symm.trans hq
        simp only [Result.ok.injEq] at he
        obtain ⟨_, rfl⟩ := he
        exact Below.heap_alloc w.drew _ g' (blk_lt hgc))

/-- the same, at the operation -/
theorem wpList_append_row {ops : Array Oper} {rest : List Oper} {o : Oper} {a : Act} {Q : Exit → Act → World → Prop} (hgd : o.guard = none) (s x : Operand) (t : TypeId)
    (ho : o.op = .call { callee := .builtin .append, args := #[s, x], argTypes := #[t, t] })
    (base : Nat) (e : TypeId) (i : TypeInfo) (z : Value) (size bytes : Nat) (ht : P.underlying t = some (.slice e)) (hi : P.info? e = some i) (hz : i.zero = some z)
    (hsize : i.size = size) (hby : i.bytes = bytes) (hzs : z.cells.size = size) (hsz : 0 < size)
    (v : Value) (n : Nat) (xs : List Value) (hs : a.eval s = v) (hown : w.ownsRow base e size v n xs)
    (ad : Addr) (m c : Nat) (news : List Value) (hx : a.eval x = .slice (some ad) m c) (hl : news.length = m * size) (hnews : ∀ j u, news[j]? = some u → w.cell? (ad.add j) = some u) (h1 : ∀ u ∈ news, u.oneCell' = true)
    (h63 : n + m ≤ maxLen) (hbytes : (n + m) * bytes ≤ 140737488355328) (hbase : base ≤ w.heap.size)
    (h : ∀ v' w', w'.ownsRow base e size v' (n + m) (xs ++ news) → w.grownBy w' v.ownBlock → (v'.ownBlock = v.ownBlock ∨ v'.ownBlock = some w.heap.size) → (∀ g, v.ownBlock = some g → Rw w w' g e (n * size) news) → wpList P ops Q rest (a.put o.dst v') w') :
    wpList P ops Q (o :: rest) a w := by
  refine wpList_plain hgd fun K hK => ?_
  obtain ⟨v', w', hr, h2, h3, h4, h5⟩ := run_append_row (P := P) w base t o.type e i z size bytes ht hi hz hsize hby hzs hsz v n xs hown ad m c news hl hnews h1 h63 hbytes hbase
  unfold Oper.wp execOp
  simp only [ho, resolve, invoke, builtin, Sem.run_bind, Sem.run_pure, Result.andThen_ok, List.map_toArray, List.map_cons, List.map_nil, hs, hx, hr]
  exact hK _ _ (h v' w' h2 h3 h4 h5)
end


theorem row_rw {w w' : World} {B g n k : Nat} {v : Value} {xs news : List Value} (h : w.ownsRow B 5 1 v n xs) (hg : v.ownBlock = some g) (hr : Rw w w' g 5 k news) (hk : n ≤ k) : w'.ownsRow B 5 1 v n xs := by
  rcases h.2 with ⟨rfl, h0⟩ | ⟨g', cap, cur, rfl, hbg, hgc, hnc, hcm, hcs, htake⟩
  · cases hg
  · simp only [Value.ownBlock, Option.some.injEq] at hg
    subst hg
    obtain ⟨cur', h1, h2, h3, h4⟩ := hr.obj cur hgc
    refine ⟨h.1, .inr ⟨g', cap, cur', rfl, hbg, h1, hnc, hcm, h2.trans hcs, ?_⟩⟩
    have h5 := congrArg (List.take (n * 1)) h3
    rw [List.take_take, List.take_take, Nat.min_eq_left (by omega)] at h5
    rw [h5]
    exact htake
/-- the blocks that a row's holder may write -/
def Spn (u : Sv) (L : List (Int × Sv)) (i : Nat) : Prop := (sl u).ownBlock = some i ∨ ∃ p ∈ L, (sl p.2).ownBlock = some i
def Rws (W : World) (L : List (Int × Sv)) (C : Nat → List Value) : Prop := ∀ (q : Nat) (p : Int × Sv), L[q]? = some p → W.ownsRow 0 5 1 (sl p.2) p.2.n (C q)
def Apt (L : List (Int × Sv)) : Prop := ∀ (q r : Nat) (a b : Int × Sv) (g : Nat), L[q]? = some a → L[r]? = some b → q ≠ r → (sl a.2).ownBlock = some g → (sl b.2).ownBlock ≠ some g
theorem apt_of : ∀ {L : List (Int × Sv)}, L.Pairwise (fun p q => ∀ g, (sl p.2).ownBlock = some g → (sl q.2).ownBlock ≠ some g) → Apt L
  | [], _ => fun q r a b g ha => by simp at ha
  | x :: L, h => fun q r a b g ha hb hne hg e => by
    obtain ⟨h1, h2⟩ := List.pairwise_cons.1 h
    cases q with
    | zero => cases r with
      | zero => exact hne rfl
      | succ r => simp at ha hb; subst ha; exact h1 b (List.mem_of_getElem? hb) g hg e
    | succ q => cases r with
      | zero => simp at ha hb; subst hb; exact h1 a (List.mem_of_getElem? ha) g e hg
      | succ r => simp at ha hb; exact apt_of h2 q r a b g ha hb (by omega) hg e
/-- a row of pairs, the values' bytes -/
structure Sq (w : World) (u : Sv) (L : List (Int × Sv)) (C : Nat → List Value) (W : World) : Prop where
  kp : Kp (Spn u L) w W
  row : W.ownsRow 0 78 2 (sl u) u.n (pc L)
  vs : Rws W L C
theorem Sq.congr {w W : World} {u : Sv} {L : List (Int × Sv)} {C C' : Nat → List Value} (h : Sq w u L C W) (hc : ∀ q p, L[q]? = some p → C q = C' q) : Sq w u L C' W :=
  ⟨h.kp, h.row, fun q p hp => by rw [← hc q p hp]; exact h.vs q p hp⟩
theorem Sq.nu {w W W' : World} {u : Sv} {L : List (Int × Sv)} {C : Nat → List Value} (h : Sq w u L C W) (k : Kp Nu W W') : Sq w u L C W' :=
  ⟨h.kp.andNu k, own_keep h.row (fun g e => k.block g (own_lt h.row e) (fun e => e)), fun q p hp => own_keep (h.vs q p hp) (fun g e => k.block g (own_lt (h.vs q p hp) e) (fun e => e))⟩
theorem Sq.set {w W : World} {u : Sv} {L : List (Int × Sv)} {C : Nat → List Value} (h : Sq w u L C W) (ha : Apt L) {i j r cap : Nat} {p : Int × Sv} (hp : L[i]? = some p) (e : sl p.2 = .slice (some ⟨r, 0, none⟩) p.2.n cap) (x : Value) :
    Sq w u L (fun q => if q = i then (C i).set j x else C q) (W.setCell ⟨r, j, none⟩ x) := by
  have ks := Kp.setCell W ⟨r, j, none⟩ x
  have hb : (sl p.2).ownBlock = some r := by rw [e]; rfl
  obtain ⟨cur, hcur⟩ := own_obj (h.vs i p hp) hb
  refine ⟨h.kp.trans ks (fun q _ eq => by have eq : q = r := eq; rw [eq]; exact .inr ⟨p, List.mem_of_getElem? hp, hb⟩), own_keep h.row (fun g eg => ks.block g (own_lt h.row eg) (fun eq => ?_)), fun q p' hp' => ?_⟩
  · have eq : g = r := eq
    obtain ⟨c2, h2⟩ := own_obj h.row eg
    rw [eq, hcur] at h2; cases h2
  · by_cases hq : q = i
    · subst hq
      rw [hp] at hp'; cases hp'
      rw [if_pos rfl]
      have h1 := h.vs q p hp
      rw [e] at h1 ⊢
      exact own_set1 h1 x
    · rw [if_neg hq]
      exact own_keep (h.vs q p' hp') (fun g eg => ks.block g (own_lt (h.vs q p' hp') eg) (fun eq => by
        have eq : g = r := eq
        rw [eq] at eg
        exact ha q i p' p r hp' hp hq eg hb))
theorem Sq.at_ {w W : World} {ua : Option Addr} {N uc : Nat} {L : List (Int × Sv)} {C : Nat → List Value} (h : Sq w ⟨ua, N, uc⟩ L C W) {i : Nat} {p : Int × Sv} (hp : L[i]? = some p) : ∃ r, ua = some ⟨r, 0, none⟩ ∧ i < N ∧ W.cell? ⟨r, i * 2, none⟩ = some (.int .u64 p.1) ∧ W.cell? ⟨r, i * 2 + 1, none⟩ = some (.slice p.2.a p.2.n p.2.c) := by
  obtain ⟨q0, q1⟩ := pc_at L i p hp
  obtain ⟨r, cap, e, hlt, d0, d1⟩ := pair_at h.row q0 q1
  exact ⟨r, (Value.slice.inj e).1, hlt, d0, d1⟩
/-- behind k appends to value i's own slice -/
structure S4 (w : World) (u : Sv) (L : List (Int × Sv)) (C : Nat → List Value) (p : Int × Sv) (W : World) (v : Value) (k : Nat) : Prop where
  sq : Sq w u L C W
  ow : ∃ l, W.ownsRow 0 5 1 v (p.2.n + k) l ∧ l.length = p.2.n + k
  bl : ∀ g, v.ownBlock = some g → (sl p.2).ownBlock = some g ∨ w.heap.size ≤ g
theorem S4.app {w W W4 : World} {u : Sv} {L : List (Int × Sv)} {C : Nat → List Value} {i k : Nat} {p : Int × Sv} {v v' x : Value} {l : List Value} {o : Obj} (h : S4 w u L C p W v k) (ha : Apt L) (hw : ∀ q ∈ L, ∀ g, (sl q.2).ownBlock = some g → g < w.heap.size) (hp : L[i]? = some p)
    (ho : W.ownsRow 0 5 1 v (p.2.n + k) l) (hl : l.length = p.2.n + k) (hown : W4.ownsRow 0 5 1 v' (p.2.n + k + 1) (l ++ [x])) (hg : (W.alloc o).grownBy W4 v.ownBlock) (hat : v'.ownBlock = v.ownBlock ∨ v'.ownBlock = some (W.alloc o).heap.size)
    (hr : ∀ g, v.ownBlock = some g → Rw (W.alloc o) W4 g 5 ((p.2.n + k) * 1) [x]) : S4 w u L C p W4 v' (k + 1) := by
  have s1 := h.sq.nu (Kp.alloc W o Nu)
  have o1 : (W.alloc o).ownsRow 0 5 1 v (p.2.n + k) l := own_keep ho (fun g e => (Kp.alloc W o Nu).block g (own_lt ho e) (fun e => e))
  have kg := Kp.of_grown hg
  have hs := h.sq.kp.size
  refine ⟨⟨s1.kp.trans kg (fun j hj e => ?_), own_keep s1.row (fun g eg => kg.block g (own_lt s1.row eg) (fun e => ?_)), fun q p' hp' => ?_⟩, ⟨_, hown, by simp [hl]; omega⟩, fun g hg' => ?_⟩
  · rcases h.bl j e.symm with e2 | e2
    · exact .inr ⟨p, List.mem_of_getElem? hp, e2⟩
    · omega
  · obtain ⟨c1, h1⟩ := own_obj s1.row eg
    obtain ⟨c2, h2⟩ := own_obj o1 e.symm
    rw [h1] at h2; cases h2
  · have hv := s1.vs q p' hp'
    rcases Classical.em (∃ g, (sl p'.2).ownBlock = some g ∧ v.ownBlock = some g) with ⟨g, e1, e2⟩ | hno
    · exact row_rw hv e1 (hr g e2) (by
        have hq : q = i := by
          rcases Decidable.em (q = i) with hqi | hqi
          · exact hqi
          · exfalso
            rcases h.bl g e2 with e3 | e3
            · exact ha q i p' p g hp' hp hqi e1 e3
            · have := hw p' (List.mem_of_getElem? hp') g e1; omega
        subst hq
        rw [hp] at hp'; cases hp'
        omega)
    · exact own_keep hv (fun g eg => kg.block g (own_lt hv eg) (fun e => hno ⟨g, eg, e.symm⟩))
  · rcases hat with e | e
    · rw [e] at hg'; exact h.bl g hg'
    · rw [e] at hg'
      have : (W.alloc o).heap.size = g := Option.some.inj hg'
      have h2 := (Kp.alloc W o Nu).size
      exact .inr (by omega)
abbrev mkv (q : Nat) : Value := .int .u8 ((q % 200 : Nat) : Int)
def rpC (C0 : Nat → List Value) (q : Nat) : List Value := List.replicate (C0 q).length (mkv q)
def C1 (C0 : Nat → List Value) (i : Nat) (q : Nat) : List Value := if q < i then rpC C0 q else C0 q
def C2 (C0 : Nat → List Value) (i j : Nat) (q : Nat) : List Value := if q < i then rpC C0 q else if q = i then List.replicate j (mkv i) ++ (C0 i).drop j else C0 q
theorem C2_zero (C0 : Nat → List Value) (i q : Nat) : C1 C0 i q = C2 C0 i 0 q := by
  unfold C1 C2
  split
  · rfl
  · split
    · rename_i h; subst h; simp
    · rfl
theorem C2_set (C0 : Nat → List Value) (i j q : Nat) (hj : j < (C0 i).length) : (if q = i then (C2 C0 i j i).set j (mkv i) else C2 C0 i j q) = C2 C0 i (j + 1) q := by
  by_cases hq : q = i
  · subst hq
    rw [if_pos rfl]
    unfold C2
    rw [if_neg (by omega), if_pos rfl, if_neg (by omega), if_pos rfl]
    have e : (C0 q).drop j = (C0 q)[j] :: (C0 q).drop (j + 1) := List.drop_eq_getElem_cons hj
    rw [List.set_append_right _ _ (by simp), List.length_replicate, Nat.sub_self, List.replicate_succ', e, List.set_cons_zero, List.append_assoc]
    rfl
  · rw [if_neg hq]
    unfold C2
    rw [if_neg hq, if_neg hq]
theorem C2_end (C0 : Nat → List Value) (i q : Nat) : C2 C0 i (C0 i).length q = C1 C0 (i + 1) q := by
  unfold C1 C2
  by_cases h : q < i
  · rw [if_pos h, if_pos (by omega)]
  · rw [if_neg h]
    by_cases hq : q = i
    · subst hq
      rw [if_pos rfl, if_pos (by omega)]
      simp [rpC]
    · rw [if_neg hq, if_neg (by omega)]
end Go.Proofs.Ytchealdgncgjoaa.StU
