import Derived.Test.YtffcnonhhfhlhaaDoorAlD
import Derived.Test.YtffcnonhhfhlhaaDoorRdB
import Derived.Maps.AppendAt
import Derived.Maps.OwnSet
import Derived.Laws.AppendOwn
import Derived.OwnWalk
import Derived.Test.YtffcnonhhfhlhaaDoorTgC
import Derived.Deep.RegionLaw
import Derived.Deep.AppendLies
import Derived.StillTailTactics
namespace Go.Proofs.YtffcnonhhfhlhaaDoor.Rg
open Go.RowKit Go.Maps
set_option linter.unusedVariables false

/-- what an append leaves of the block g that it was made on: the first cells as they were, and no value there that wasn't there and wasn't appended -/
structure Rw (w w' : World) (g : Nat) (e : TypeId) (n : Nat) (news : List Value) : Prop where
  obj : ∀ cur, w.heap[g]? = some (.cells cur e (0, 0)) → ∃ cur' : Array Value, w'.heap[g]? = some (.cells cur' e (0, 0)) ∧ cur'.size = cur.size ∧ cur'.toList.take n = cur.toList.take n ∧ ∀ (j : Nat) (u : Value), cur'.toList[j]? = some u → cur.toList[j]? = some u ∨ u ∈ news

theorem Rw.same {w w' : World} {g : Nat} {e : TypeId} {n : Nat} {news : List Value} (h : w'.heap[g]? = w.heap[g]?) : Rw w w' g e n news :=
  ⟨fun cur hc => ⟨cur, h.trans hc, rfl, rfl, fun _ _ hu => .inl hu⟩⟩

section
variable {P : Program} (w : World)

theorem run_append_row (base : Nat) (t ty e : TypeId) (i : TypeInfo) (z : Value) (size bytes : Nat) (ht : P.underlying t = some (.slice e)) (hi : P.info? e = some i) (hz : i.zero = some z)
    (hsize : i.size = size) (hby : i.bytes = bytes) (hzs : z.cells.size = size) (hsz : 0 < size)
    (v : Value) (n : Nat) (xs : List Value) (hown : w.ownsRow base e size v n xs)
    (a : Addr) (m c : Nat) (news : List Value) (hl : news.length = m * size) (hnews : ∀ j u, news[j]? = some u → w.cell? (a.add j) = some u) (h1 : ∀ u ∈ news, u.oneCell' = true)
    (h63 : n + m ≤ maxLen) (hbytes : (n + m) * bytes ≤ 140737488355328) (hbase : base ≤ w.heap.size) :
    ∃ v' w', (Builtin.append_ #[t, t] ty #[v, .slice (some a) m c]).run P w = .ok v' w' ∧ w'.ownsRow base e size v' (n + m) (xs ++ news) ∧ w.grownBy w' v.ownBlock ∧
      (v'.ownBlock = v.ownBlock ∨ v'.ownBlock = some w.heap.size) ∧ (∀ g, v.ownBlock = some g → Rw w w' g e (n * size) news) := by
  obtain ⟨v', w', hr, h2, h3, _, h5⟩ := run_append_own_at (P := P) w base t ty e i z size bytes ht hi hz hsize hby hzs hsz v n xs hown a m c news hl hnews h1 h63 hbytes hbase
  refine ⟨v', w', hr, h2, h3, h5, ?_⟩
  intro g hg
  subst hsize
  rcases hown.2 with ⟨rfl, rfl⟩ | ⟨g', cap, cur, rfl, hbg, hgc, hnc, hcm, hcs, htake⟩
  · simp [Value.ownBlock] at hg
  · simp only [Value.ownBlock, Option.some.injEq] at hg
    subst hg
    by_cases hroom : n + m ≤ cap
    · have hfit : n * i.size + news.length ≤ cur.size := by rw [hl, hcs, ← Nat.add_mul]; exact Nat.mul_le_mul_right _ hroom
      have hq := run_append_room (P := P) w t ty e i ht hi g' n cap cur hgc a m c news hl hnews h1 hroom hfit
      have he := hr.symm.trans hq
      simp only [Result.ok.injEq] at he
      obtain ⟨_, rfl⟩ := he
      refine ⟨fun cur0 h0 => ?_⟩
      have hcc : cur0 = cur := by rw [hgc] at h0; simpa using h0.symm
      subst hcc
      have hlt : (cur0.toList.take (n * i.size)).length = n * i.size := by rw [List.length_take, Array.length_toList]; omega
      refine ⟨_, setRow_heap w g' cur0 _ e _ hgc, ?_, ?_, ?_⟩
      · simp only [List.size_toArray, List.length_append, List.length_take, List.length_drop, Array.length_toList]
        omega
      · rw [List.append_assoc]
        conv => lhs; rw [← hlt]
        rw [hlt]
        exact List.take_left' hlt
      · intro j u hu
        simp only [List.append_assoc] at hu
        rw [List.getElem?_append] at hu
        split at hu
        · exact .inl (by rw [List.getElem?_take] at hu; split at hu <;> simp_all)
        · rw [List.getElem?_append] at hu
          split at hu
          · exact .inr (List.mem_of_getElem? hu)
          · rw [List.getElem?_drop] at hu
            left
            rw [← hu]
            congr 1
            omega
    · exact Rw.same (by
        have hq := run_append_grow (P := P) w t ty e i z ht hi hz ⟨g', 0, none⟩ n cap xs hown.1 (hown.cells (g := g') rfl) a m c news hl hnews (by omega) (by simp only [maxLen] at h63; omega) (growslice_fits (by omega) (by rw [hby]; exact hbytes))
        have he := hr.symm.trans hq
        simp only [Result.ok.injEq] at he
        obtain ⟨_, rfl⟩ := he
        exact Below.heap_alloc w.drew _ g' (blk_lt hgc))

/-- the same, at the operation -/
theorem wpList_append_row {ops : Array Oper} {rest : List Oper} {o : Oper} {a : Act} {Q : Exit → Act → World → Prop} (hgd : o.guard = none) (s x : Operand) (t : TypeId)
    (ho : o.op = .call { callee := .builtin .append, args := #[s, x], argTypes := #[t, t] })
    (base : Nat) (e : TypeId) (i : TypeInfo) (z : Value) (size bytes : Nat) (ht : P.underlying t = some (.slice e)) (hi : P.info? e = some i) (hz : i.zero = some z)
    (hsize : i.size = size) (hby : i.bytes = bytes) (hzs : z.cells.size = size) (hsz : 0 < size)
    (v : Value) (n : Nat) (xs : List Value) (hs : a.eval s = v) (hown : w.ownsRow base e size v n xs)
    (ad : Addr) (m c : Nat) (news : List Value) (hx : a.eval x = .slice (some ad) m c) (hl : news.length = m * size) (hnews : ∀ j u, news[j]? = some u → w.cell? (ad.add j) = some u) (h1 : ∀ u ∈ news, u.oneCell' = true)
    (h63 : n + m ≤ maxLen) (hbytes : (n + m) * bytes ≤ 140737488355328) (hbase : base ≤ w.heap.size)
    (h : ∀ v' w', w'.ownsRow base e size v' (n + m) (xs ++ news) → w.grownBy w' v.ownBlock → (v'.ownBlock = v.ownBlock ∨ v'.ownBlock = some w.heap.size) → (∀ g, v.ownBlock = some g → Rw w w' g e (n * size) news) → wpList P ops Q rest (a.put o.dst v') w') :
    wpList P ops Q (o :: rest) a w := by
  refine wpList_plain hgd fun K hK => ?_
  obtain ⟨v', w', hr, h2, h3, h4, h5⟩ := run_append_row (P := P) w base t o.type e i z size bytes ht hi hz hsize hby hzs hsz v n xs hown ad m c news hl hnews h1 h63 hbytes hbase
  unfold Oper.wp execOp
  simp only [ho, resolve, invoke, builtin, Sem.run_bind, Sem.run_pure, Result.andThen_ok, List.map_toArray, List.map_cons, List.map_nil, hs, hx, hr]
  exact hK _ _ (h v' w' h2 h3 h4 h5)
end

/-- a row that can be read: its first n elements -/
def Rdr (w : World) (t e : Nat) (v : Value) (n : Nat) (xs : List Value) : Prop :=
  xs.length = n * e ∧ ((v = .slice none 0 0 ∧ n = 0) ∨ ∃ g cap cur, v = .slice (some ⟨g, 0, none⟩) n cap ∧ w.heap[g]? = some (.cells cur t (0, 0)) ∧ cur.toList.take (n * e) = xs)
theorem Rdr.of_own {w : World} {B t e n : Nat} {v : Value} {xs : List Value} (h : w.ownsRow B t e v n xs) : Rdr w t e v n xs := by
  refine ⟨h.1, ?_⟩
  rcases h.2 with ⟨h1, h2⟩ | ⟨g, cap, cur, h1, _, h3, _, _, _, h7⟩
  · exact .inl ⟨h1, h2⟩
  · exact .inr ⟨g, cap, cur, h1, h3, h7⟩
theorem Rdr.keep {w w' : World} {t e n : Nat} {v : Value} {xs : List Value} (h : Rdr w t e v n xs) (hk : ∀ g, v.ownBlock = some g → w'.heap[g]? = w.heap[g]?) : Rdr w' t e v n xs := by
  refine ⟨h.1, ?_⟩
  rcases h.2 with ⟨h1, h2⟩ | ⟨g, cap, cur, rfl, h3, h7⟩
  · exact .inl ⟨h1, h2⟩
  · exact .inr ⟨g, cap, cur, rfl, (hk g rfl).trans h3, h7⟩
theorem Rdr.obj {w : World} {t e n : Nat} {v : Value} {xs : List Value} (h : Rdr w t e v n xs) {g : Nat} (hg : v.ownBlock = some g) : ∃ cur, w.heap[g]? = some (.cells cur t (0, 0)) := by
  rcases h.2 with ⟨rfl, _⟩ | ⟨g', cap, cur, rfl, h3, _⟩
  · cases hg
  · cases hg; exact ⟨cur, h3⟩
theorem Rdr.slice {w : World} {t e n : Nat} {v : Value} {xs : List Value} (h : Rdr w t e v n xs) : ∃ a c, v = .slice a n c := by
  rcases h.2 with ⟨rfl, rfl⟩ | ⟨g, cap, cur, rfl, _⟩
  · exact ⟨_, _, rfl⟩
  · exact ⟨_, _, rfl⟩
/-- a cell of such a row -/
theorem Rdr.cell {w : World} {t e n : Nat} {a : Option Addr} {c : Nat} {xs : List Value} (h : Rdr w t e (.slice a n c) n xs) {j : Nat} {u : Value} (hj : xs[j]? = some u) : ∃ g, a = some ⟨g, 0, none⟩ ∧ w.cell? ⟨g, j, none⟩ = some u := by
  have hlt := (List.getElem?_eq_some_iff.1 hj).1
  rcases h.2 with ⟨_, h2⟩ | ⟨g, cap, cur, e1, h3, h7⟩
  · rw [h.1, h2, Nat.zero_mul] at hlt; omega
  · cases e1
    refine ⟨g, rfl, ?_⟩
    rw [← h7, List.getElem?_take] at hj
    split at hj
    · simp only [World.cell?, h3]
      rw [← hj]
      simp
    · cases hj
/-- the slice that an append was made on reads as before -/
theorem Rdr.app {w w' : World} {B t e n n0 : Nat} {v v0 : Value} {xs xs0 news : List Value} (h0 : Rdr w t e v0 n0 xs0) (hn : n0 ≤ n) (hgr : w.grownBy w' v.ownBlock) (hr : ∀ g, v.ownBlock = some g → Rw w w' g t (n * e) news) : Rdr w' t e v0 n0 xs0 := by
  refine ⟨h0.1, ?_⟩
  rcases h0.2 with ⟨h1, h2⟩ | ⟨g, cap, cur, rfl, h3, h7⟩
  · exact .inl ⟨h1, h2⟩
  · by_cases c : some g = v.ownBlock
    · obtain ⟨cur', h4, _, h5, _⟩ := (hr g c.symm).obj cur h3
      refine .inr ⟨g, cap, cur', rfl, h4, ?_⟩
      rw [← h7]
      have e1 : n0 * e ≤ n * e := Nat.mul_le_mul_right _ hn
      have e2 : ∀ l : List Value, l.take (n0 * e) = (l.take (n * e)).take (n0 * e) := fun l => by rw [List.take_take, Nat.min_eq_left e1]
      rw [e2 cur'.toList, h5, ← e2]
    · exact .inr ⟨g, cap, cur, rfl, ((Kp.of_grown hgr).block g (blk_lt h3) c).trans h3, h7⟩
end Go.Proofs.YtffcnonhhfhlhaaDoor.Rg
namespace Go.Proofs.YtffcnonhhfhlhaaDoor.Rg
open Go.RowKit Go.Shelf Go.Sort
open Go.Proofs.YtffcnonhhfhlhaaDoor.It
set_option linter.unusedVariables false
theorem info22l : (Tryd.prog.info? 22).map (fun i => (i.zero, i.size, i.bytes)) = some (some (.slice none 0 0), 1, 24) := by kernel_rfl
theorem info55l : (Tryd.prog.info? 55).map (fun i => (i.zero, i.size, i.bytes)) = some (some (.slice none 0 0), 1, 24) := by kernel_rfl
theorem info58l : (Tryd.prog.info? 58).map (fun i => (i.zero, i.size, i.bytes)) = some (some (.slice none 0 0), 1, 24) := by kernel_rfl
/-- the book in memory -/
structure Bk (w : World) (B b : Nat) (mv sv iv : Value) (ml sl il : List Value) : Prop where
  blk : w.heap[b]? = some (.cells #[mv, sv, iv] 78 (0, 0))
  m : w.ownsRow B 22 1 mv ml.length ml
  s : w.ownsRow B 55 1 sv sl.length sl
  i : w.ownsRow B 58 1 iv il.length il
/-- the book's own blocks -/
def Bc (b : Nat) (mv sv iv : Value) (g : Nat) : Prop := g = b ∨ some g = mv.ownBlock ∨ some g = sv.ownBlock ∨ some g = iv.ownBlock
theorem Bk.other {w : World} {B b : Nat} {mv sv iv : Value} {ml sl il : List Value} (h : Bk w B b mv sv iv ml sl il) {g : Nat} {c : Array Value} {t : TypeId} (hg : w.heap[g]? = some (.cells c t (0, 0))) (h1 : t ≠ 78) (h2 : t ≠ 22) (h3 : t ≠ 55) (h4 : t ≠ 58) : ¬ Bc b mv sv iv g := fun e => by
  rcases e with e | e | e | e
  · rw [e, h.blk] at hg; cases hg; exact h1 rfl
  · obtain ⟨cc, hcc⟩ := own_obj h.m e.symm
    rw [hcc] at hg; cases hg; exact h2 rfl
  · obtain ⟨cc, hcc⟩ := own_obj h.s e.symm
    rw [hcc] at hg; cases hg; exact h3 rfl
  · obtain ⟨cc, hcc⟩ := own_obj h.i e.symm
    rw [hcc] at hg; cases hg; exact h4 rfl
theorem Bk.keep {w w' : World} {B b : Nat} {mv sv iv : Value} {ml sl il : List Value} (h : Bk w B b mv sv iv ml sl il) {T : Nat → Prop} (k : Kp T w w') (hT : ∀ g, Bc b mv sv iv g → ¬ T g) : Bk w' B b mv sv iv ml sl il :=
  ⟨(k.block b (blk_lt h.blk) (hT b (.inl rfl))).trans h.blk, own_keep h.m (fun g e => k.block g (own_lt h.m e) (hT g (.inr (.inl e.symm)))), own_keep h.s (fun g e => k.block g (own_lt h.s e) (hT g (.inr (.inr (.inl e.symm))))), own_keep h.i (fun g e => k.block g (own_lt h.i e) (hT g (.inr (.inr (.inr e.symm)))))⟩
theorem Bk.nu {w w' : World} {B b : Nat} {mv sv iv : Value} {ml sl il : List Value} (h : Bk w B b mv sv iv ml sl il) (k : Kp Nu w w') : Bk w' B b mv sv iv ml sl il := h.keep k (fun _ _ e => e)
theorem own_bc {w w' : World} {B b B' t e n : Nat} {mv sv iv v : Value} {ml sl il xs : List Value} (h : Bk w B b mv sv iv ml sl il) (hr : w.ownsRow B' t e v n xs) (k : Kp (Bc b mv sv iv) w w') (h1 : t ≠ 78) (h2 : t ≠ 22) (h3 : t ≠ 55) (h4 : t ≠ 58) : w'.ownsRow B' t e v n xs :=
  own_keep hr (fun g e => by
    obtain ⟨c, hc⟩ := own_obj hr e
    exact k.block g (own_lt hr e) (h.other hc h1 h2 h3 h4))
theorem set_bk {w : World} {b : Nat} {c0 c1 c2 : Value} {t : TypeId} (h : w.heap[b]? = some (.cells #[c0, c1, c2] t (0, 0))) (v : Value) :
    (w.setCell ⟨b, 0, none⟩ v).heap[b]? = some (.cells #[v, c1, c2] t (0, 0)) ∧ (w.setCell ⟨b, 1, none⟩ v).heap[b]? = some (.cells #[c0, v, c2] t (0, 0)) ∧ (w.setCell ⟨b, 2, none⟩ v).heap[b]? = some (.cells #[c0, c1, v] t (0, 0)) := ⟨set3 h 0 v, set3 h 1 v, set3 h 2 v⟩
/-- a list more of moves -/
theorem Bk.putM {w w1 w2 : World} {B b g n : Nat} {mv sv iv m : Value} {ml sl il : List Value} {cap : Nat} (h : Bk w B b mv sv iv ml sl il) (k : Kp Nu w w1) (hr : w2.ownsRow B 22 1 (.slice (some ⟨g, 0, none⟩) n cap) n (ml ++ [m])) (hn : n = ml.length + 1) (hg : w1.grownBy w2 mv.ownBlock) :
    Bk (w2.setCell ⟨b, 0, none⟩ (.slice (some ⟨g, 0, none⟩) n cap)) B b (.slice (some ⟨g, 0, none⟩) n cap) sv iv (ml ++ [m]) sl il ∧ Kp (Bc b mv sv iv) w (w2.setCell ⟨b, 0, none⟩ (.slice (some ⟨g, 0, none⟩) n cap)) := by
  have kg := Kp.of_grown hg
  have h1 := h.nu k
  have nm : ∀ {x : Nat} {c : Array Value} {t : TypeId}, w1.heap[x]? = some (.cells c t (0, 0)) → t ≠ 22 → ¬ some x = mv.ownBlock := fun hx ht e => by
    obtain ⟨cc, hcc⟩ := own_obj h1.m e.symm
    rw [hcc] at hx; cases hx; exact ht rfl
  have b2 := (kg.block b (blk_lt h1.blk) (nm h1.blk (by decide))).trans h1.blk
  have s2 := own_keep h1.s (fun x e => by
    obtain ⟨c, hc⟩ := own_obj h1.s e
    exact kg.block x (own_lt h1.s e) (nm hc (by decide)))
  have i2 := own_keep h1.i (fun x e => by
    obtain ⟨c, hc⟩ := own_obj h1.i e
    exact kg.block x (own_lt h1.i e) (nm hc (by decide)))
  have ks := (Kp.refl (fun x => x = b) w2).andSet ⟨b, 0, none⟩ (.slice (some ⟨g, 0, none⟩) n cap) (.inr rfl)
  have row : ∀ {B' t e n' : Nat} {v : Value} {xs : List Value}, w2.ownsRow B' t e v n' xs → t ≠ 78 → (w2.setCell ⟨b, 0, none⟩ (.slice (some ⟨g, 0, none⟩) n cap)).ownsRow B' t e v n' xs := fun hr ht => own_keep hr (fun x e => by
    obtain ⟨c, hc⟩ := own_obj hr e
    exact ks.block x (own_lt hr e) (fun e2 => by
      have e3 : x = b := e2
      rw [e3, b2] at hc; cases hc; exact ht rfl))
  refine ⟨⟨(set_bk b2 _).1, ?_, row s2 (by decide), row i2 (by decide)⟩, ?_⟩
  · rw [List.length_append]
    subst hn
    exact row hr (by decide)
  · refine (((k.mono (fun _ _ e => e.elim)).trans kg (fun x _ e => .inr (.inl e))).andSet _ _ (.inr (.inl rfl)))
theorem Bk.putS {w w1 w2 : World} {B b g n : Nat} {mv sv iv m : Value} {ml sl il : List Value} {cap : Nat} (h : Bk w B b mv sv iv ml sl il) (k : Kp Nu w w1) (hr : w2.ownsRow B 55 1 (.slice (some ⟨g, 0, none⟩) n cap) n (sl ++ [m])) (hn : n = sl.length + 1) (hg : w1.grownBy w2 sv.ownBlock) :
    Bk (w2.setCell ⟨b, 1, none⟩ (.slice (some ⟨g, 0, none⟩) n cap)) B b mv (.slice (some ⟨g, 0, none⟩) n cap) iv ml (sl ++ [m]) il ∧ Kp (Bc b mv sv iv) w (w2.setCell ⟨b, 1, none⟩ (.slice (some ⟨g, 0, none⟩) n cap)) := by
  have kg := Kp.of_grown hg
  have h1 := h.nu k
  have nm : ∀ {x : Nat} {c : Array Value} {t : TypeId}, w1.heap[x]? = some (.cells c t (0, 0)) → t ≠ 55 → ¬ some x = sv.ownBlock := fun hx ht e => by
    obtain ⟨cc, hcc⟩ := own_obj h1.s e.symm
    rw [hcc] at hx; cases hx; exact ht rfl
  have b2 := (kg.block b (blk_lt h1.blk) (nm h1.blk (by decide))).trans h1.blk
  have s2 := own_keep h1.m (fun x e => by
    obtain ⟨c, hc⟩ := own_obj h1.m e
    exact kg.block x (own_lt h1.m e) (nm hc (by decide)))
  have i2 := own_keep h1.i (fun x e => by
    obtain ⟨c, hc⟩ := own_obj h1.i e
    exact kg.block x (own_lt h1.i e) (nm hc (by decide)))
  have ks := (Kp.refl (fun x => x = b) w2).andSet ⟨b, 1, none⟩ (.slice (some ⟨g, 0, none⟩) n cap) (.inr rfl)
  have row : ∀ {B' t e n' : Nat} {v : Value} {xs : List Value}, w2.ownsRow B' t e v n' xs → t ≠ 78 → (w2.setCell ⟨b, 1, none⟩ (.slice (some ⟨g, 0, none⟩) n cap)).ownsRow B' t e v n' xs := fun hr ht => own_keep hr (fun x e => by
    obtain ⟨c, hc⟩ := own_obj hr e
    exact ks.block x (own_lt hr e) (fun e2 => by
      have e3 : x = b := e2
      rw [e3, b2] at hc; cases hc; exact ht rfl))
  refine ⟨⟨(set_bk b2 _).2.1, row s2 (by decide), ?_, row i2 (by decide)⟩, ?_⟩
  · rw [List.length_append]
    subst hn
    exact row hr (by decide)
  · refine (((k.mono (fun _ _ e => e.elim)).trans kg (fun x _ e => .inr (.inr (.inl e)))).andSet _ _ (.inr (.inl rfl)))
theorem Bk.putC {w w1 w2 : World} {B b g n : Nat} {mv sv iv m : Value} {ml sl il : List Value} {cap : Nat} (h : Bk w B b mv sv iv ml sl il) (k : Kp Nu w w1) (hr : w2.ownsRow B 58 1 (.slice (some ⟨g, 0, none⟩) n cap) n (il ++ [m])) (hn : n = il.length + 1) (hg : w1.grownBy w2 iv.ownBlock) :
    Bk (w2.setCell ⟨b, 2, none⟩ (.slice (some ⟨g, 0, none⟩) n cap)) B b mv sv (.slice (some ⟨g, 0, none⟩) n cap) ml sl (il ++ [m]) ∧ Kp (Bc b mv sv iv) w (w2.setCell ⟨b, 2, none⟩ (.slice (some ⟨g, 0, none⟩) n cap)) := by
  have kg := Kp.of_grown hg
  have h1 := h.nu k
  have nm : ∀ {x : Nat} {c : Array Value} {t : TypeId}, w1.heap[x]? = some (.cells c t (0, 0)) → t ≠ 58 → ¬ some x = iv.ownBlock := fun hx ht e => by
    obtain ⟨cc, hcc⟩ := own_obj h1.i e.symm
    rw [hcc] at hx; cases hx; exact ht rfl
  have b2 := (kg.block b (blk_lt h1.blk) (nm h1.blk (by decide))).trans h1.blk
  have s2 := own_keep h1.m (fun x e => by
    obtain ⟨c, hc⟩ := own_obj h1.m e
    exact kg.block x (own_lt h1.m e) (nm hc (by decide)))
  have i2 := own_keep h1.s (fun x e => by
    obtain ⟨c, hc⟩ := own_obj h1.s e
    exact kg.block x (own_lt h1.s e) (nm hc (by decide)))
  have ks := (Kp.refl (fun x => x = b) w2).andSet ⟨b, 2, none⟩ (.slice (some ⟨g, 0, none⟩) n cap) (.inr rfl)
  have row : ∀ {B' t e n' : Nat} {v : Value} {xs : List Value}, w2.ownsRow B' t e v n' xs → t ≠ 78 → (w2.setCell ⟨b, 2, none⟩ (.slice (some ⟨g, 0, none⟩) n cap)).ownsRow B' t e v n' xs := fun hr ht => own_keep hr (fun x e => by
    obtain ⟨c, hc⟩ := own_obj hr e
    exact ks.block x (own_lt hr e) (fun e2 => by
      have e3 : x = b := e2
      rw [e3, b2] at hc; cases hc; exact ht rfl))
  refine ⟨⟨(set_bk b2 _).2.2, row s2 (by decide), row i2 (by decide), ?_⟩, ?_⟩
  · rw [List.length_append]
    subst hn
    exact row hr (by decide)
  · refine (((k.mono (fun _ _ e => e.elim)).trans kg (fun x _ e => .inr (.inr (.inr e)))).andSet _ _ (.inr (.inl rfl)))
end Go.Proofs.YtffcnonhhfhlhaaDoor.Rg
namespace Go.Proofs.YtffcnonhhfhlhaaDoor.Rg
open Go.RowKit Go.Shelf Go.Sort
open Go.Proofs.YtffcnonhhfhlhaaDoor.It
set_option linter.unusedVariables false
/-- a call at a step of a region that draws -/
theorem step_callL {P : Program} {ops : Array Oper} {o : Oper} {a : Act} {w : World} {K : Act → World → Prop} {Q : Exit → Act → World → Prop} {E : Prop} (hgd : o.guard = none) (f : FuncId) (args : Array Value) (hx : (execOp a.eval o).run P w = .ok (.enter f args) w) (R : Value → World → Prop) (hC : Calls P f args w fun e w' => ∃ v, e = .returned v ∧ R v w') (h : ∀ v w', R v w' → K (a.put o.dst v) w') :
    if Region.wanted o (yielded ops a.tmps) = true then Oper.wp P o a w K Q else E := by
  have hw : Region.wanted o (yielded ops a.tmps) = true := by simp [Region.wanted, hgd]
  rw [if_pos hw]
  unfold Oper.wp
  rw [hx, Oper.upon_enter]
  refine hC.mono ?_
  rintro e w' ⟨v, rfl, hr⟩
  exact h v w' hr
/-- what one asking of a table told -/
structure AskR (w w' : World) (A E : List Sg) (m s c : Value) (ss : List Int) : Prop where
  m : w'.ownsRow w.heap.size 26 3 m A.length (cells A)
  s : w'.ownsRow w.heap.size 105 3 s ss.length (cellsH A (srt ss))
  kh : Khd A ss
  c : w'.ownsRow w.heap.size 112 4 c (dst E A).2.length (cellsC (dst E A).2)
/-- the book's block behind an append to one of its rows -/
theorem bk_far {X Z : World} {b t e n B : Nat} {c : Array Value} {v : Value} {xs : List Value} (hb : X.heap[b]? = some (.cells c 78 (0, 0))) (hr : X.ownsRow B t e v n xs) (ht : t ≠ 78) (hg : X.grownBy Z v.ownBlock) : Z.heap[b]? = some (.cells c 78 (0, 0)) := by
  refine ((Kp.of_grown hg).block b (blk_lt hb) (fun q => ?_)).trans hb
  obtain ⟨cc, hcc⟩ := own_obj hr q.symm
  rw [hb] at hcc; cases hcc; exact ht rfl
theorem Bk.c0 {w : World} {B b : Nat} {mv sv iv : Value} {ml sl il : List Value} (h : Bk w B b mv sv iv ml sl il) : w.cell? ⟨b, 0, none⟩ = some mv := (cell3 h.blk).1
theorem Bk.c1 {w : World} {B b : Nat} {mv sv iv : Value} {ml sl il : List Value} (h : Bk w B b mv sv iv ml sl il) : w.cell? ⟨b, 1, none⟩ = some sv := (cell3 h.blk).2.1
theorem Bk.c2 {w : World} {B b : Nat} {mv sv iv : Value} {ml sl il : List Value} (h : Bk w B b mv sv iv ml sl il) : w.cell? ⟨b, 2, none⟩ = some iv := (cell3 h.blk).2.2
theorem news_one {w : World} (m : Value) (t : TypeId) : ∀ j u, [m][j]? = some u → (w.alloc (.cells #[m] t)).cell? ((⟨w.heap.size, 0, none⟩ : Addr).add j) = some u := World.news_of_block (heap_alloc_new _ _)
set_option maxRecDepth 100000 in
set_option maxHeartbeats 4000000 in
theorem ask34 {w : World} {B B1 b b1 b2 : Nat} {l1 l2 : Int} {v1 v2 mv sv iv : Value} {ml sl il : List Value} {A E : List Sg} (hB : Bk w B b mv sv iv ml sl il) (hBw : B ≤ w.heap.size) (hml : ml.length ≤ 100) (hsl : sl.length ≤ 100) (hil : il.length ≤ 100) (h1 : Tb B1 w b1 l1 v1 A) (h2 : Tb B1 w b2 l2 v2 E) :
    Calls Tryd.prog 34 #[.pointer (some ⟨b, 0, none⟩), .pointer (some ⟨b1, 0, none⟩), .pointer (some ⟨b2, 0, none⟩)] w fun e w' => e = .returned (.bool true) ∧ ∃ mv' sv' iv' m s c ss, Bk w' B b mv' sv' iv' (ml ++ [m]) (sl ++ [s]) (il ++ [c]) ∧ AskR w w' A E m s c ss ∧ Kp (Bc b mv sv iv) w w' := by
  obtain ⟨mN, emN⟩ : ∃ n, ml.length = n := ⟨_, rfl⟩
  obtain ⟨sN, esN⟩ : ∃ n, sl.length = n := ⟨_, rfl⟩
  obtain ⟨iN, eiN⟩ : ∃ n, il.length = n := ⟨_, rfl⟩
  obtain ⟨NA, eNA⟩ : ∃ n, A.length = n := ⟨_, rfl⟩
  obtain ⟨ma, mc, em⟩ := own_slice hB.m
  obtain ⟨sa, sc, es⟩ := own_slice hB.s
  obtain ⟨ia, ic, ei⟩ := own_slice hB.i
  rw [emN] at em hml
  rw [esN] at es hsl
  rw [eiN] at ei hil
  subst em es ei
  have c0 : w.cell? ⟨b, 0, none⟩ = some (.slice ma mN mc) := hB.c0
  have d0 : w.drew.cell? ⟨b, 0, none⟩ = some (.slice ma mN mc) := hB.c0
  obtain ⟨i0, hiT0, hz00, hz10, hz20⟩ := info_parts info22l
  have kd : Kp Nu w w.drew := (Kp.refl _ _).drew
  have LC : Calls Tryd.prog 25 #[.pointer (some ⟨b1, 0, none⟩)] w.drew fun e w' => ∃ v, e = .returned v ∧ ∃ xa xc, v = .slice xa NA xc ∧ Hid (w'.ownsRow w.heap.size 26 3 (.slice xa NA xc) NA (cells A) ∧ Kp Nu w w' ∧ Bk w' B b (.slice ma mN mc) (.slice sa sN sc) (.slice ia iN ic) ml sl il ∧ B ≤ w'.heap.size) := by
    refine (list_any (h1.nu kd)).mono ?_
    rintro e w' ⟨u, rfl, hr, hk⟩
    rw [eNA] at hr
    obtain ⟨xa, xc, rfl⟩ := own_slice hr
    have k2 := kd.andNu hk
    exact ⟨_, rfl, xa, xc, rfl, hide ⟨hr, k2, hB.nu k2, by have := k2.size; omega⟩⟩
  have HA := hide (And.intro hB (And.intro hBw (And.intro h1 (And.intro h2 (And.intro emN (And.intro esN (And.intro eiN eNA)))))))
  clear hB hBw h1 h2 emN esN eiN eNA kd
  go_enter Tryd.func34, Tryd.ntmps34
  go_wp2_with fail
  go_region_law (first | (refine step_callL (by rfl) 25 #[.pointer (some ⟨b1, 0, none⟩)] (by go_simp; first | done | (with_reducible rfl)) _ LC ?_; rintro v3 w3 ⟨xa, xc, rfl, H3⟩; have s3 : w3.cell? ⟨b, 0, none⟩ = some (.slice ma mN mc) := H3.out.2.2.1.c0; have s3a : ∀ o, (w3.alloc o).cell? ⟨b, 0, none⟩ = some (.slice ma mN mc) := fun o => (H3.out.2.2.1.nu (Kp.alloc _ _ _)).c0) | (refine step_append_lies _ (by rfl) _ _ _ (by rfl) B 22 i0 _ 1 24 Tryd.underlying74 hiT0 hz00 hz10 hz20 rfl (by decide) (.slice ma mN mc) mN ml (by rfl) (by have q := (H3.out.2.2.1.nu (Kp.alloc w3 (.cells #[.slice xa NA xc] 22) Nu)).m; rw [HA.out.2.2.2.2.1] at q; exact q) ⟨w3.heap.size, 0, none⟩ 1 1 [.slice xa NA xc] (by rfl) (by rfl) (news_one _ _) (by simp [Value.oneCell']) (by decide) (by unfold maxLen; omega) (by omega) (by rw [World.size_alloc]; have := H3.out.2.2.2; omega) _ rfl ?_; intro g4 cap4 w4 hown4 hgrow4 hat4 hlt4; have hb4 := bk_far (H3.out.2.2.1.nu (Kp.alloc w3 (.cells #[.slice xa NA xc] 22) Nu)).blk (H3.out.2.2.1.nu (Kp.alloc w3 (.cells #[.slice xa NA xc] 22) Nu)).m (by decide) hgrow4; have f4 := free3 hb4 0; have y4 := (cell3 hb4).1))
  all_goals
    obtain ⟨hB5, k5⟩ := H3.out.2.2.1.putM (Kp.alloc w3 (.cells #[.slice xa NA xc] 22) Nu) hown4 (by rw [HA.out.2.2.2.2.1]) hgrow4
    obtain ⟨W5, hW5⟩ : ∃ W, w4.setCell ⟨b, 0, none⟩ (.slice (some ⟨g4, 0, none⟩) (mN + 1) cap4) = W := ⟨_, rfl⟩
    rw [hW5] at hB5 k5
    have H5 : Hid (Bk W5 B b (.slice (some ⟨g4, 0, none⟩) (mN + 1) cap4) (.slice sa sN sc) (.slice ia iN ic) (ml ++ [.slice xa NA xc]) sl il ∧ Kp (Bc b (.slice ma mN mc) (.slice sa sN sc) (.slice ia iN ic)) w W5 ∧ W5.ownsRow w.heap.size 26 3 (.slice xa NA xc) NA (cells A) ∧ Tb B1 W5 b1 l1 v1 A ∧ Tb B1 W5 b2 l2 v2 E ∧ B ≤ W5.heap.size ∧ w.heap.size ≤ W5.heap.size) := by
      obtain ⟨hr, hk, hb, hs⟩ := H3.out
      obtain ⟨hb0, hBw, t1, t2, _⟩ := HA.out
      have kk : Kp (Bc b (.slice ma mN mc) (.slice sa sN sc) (.slice ia iN ic)) w W5 := (hk.mono (fun _ _ e => e.elim)).trans k5 (fun _ _ e => e)
      have tb : ∀ {bb : Nat} {l : Int} {v : Value} {L : List Sg}, Tb B1 w bb l v L → Tb B1 W5 bb l v L := fun t => t.keepT kk (hb0.other t.blk (by decide) (by decide) (by decide) (by decide)) (fun g c hc => hb0.other hc (by decide) (by decide) (by decide) (by decide))
      exact hide ⟨hB5, kk, own_bc hb hr k5 (by decide) (by decide) (by decide) (by decide), tb t1, tb t2, by have := k5.size; omega, kk.size⟩
    have HT4 : Hid ((Value.slice ma mN mc).ownBlock = some g4 ∨ w.heap.size ≤ g4) := hide (hat4.imp id (fun h => by rw [World.size_alloc] at h; have := H3.out.2.1.size; omega))
    clear hB5 k5 hown4 hgrow4 hat4 hlt4 hb4 f4 y4 s3 s3a c0 d0 LC
    have c1 : W5.cell? ⟨b, 1, none⟩ = some (.slice sa sN sc) := H5.out.1.c1
    have d1 : W5.drew.cell? ⟨b, 1, none⟩ = some (.slice sa sN sc) := H5.out.1.c1
    obtain ⟨i1, hiT1, hz01, hz11, hz21⟩ := info_parts info55l
    have SC : Calls Tryd.prog 26 #[.pointer (some ⟨b1, 0, none⟩)] W5.drew fun e w' => ∃ v, e = .returned v ∧ ∃ ya yc NS, v = .slice ya NS yc ∧ Hid (∃ ss, ss.length = NS ∧ Khd A ss ∧ w'.ownsRow w.heap.size 105 3 (.slice ya NS yc) NS (cellsH A (srt ss)) ∧ Kp Nu W5 w' ∧ Bk w' B b (.slice (some ⟨g4, 0, none⟩) (mN + 1) cap4) (.slice sa sN sc) (.slice ia iN ic) (ml ++ [.slice xa NA xc]) sl il ∧ B ≤ w'.heap.size) := by
      obtain ⟨hB5, kk, hr5, t1, t2, hs5, hw5⟩ := H5.out
      have kd : Kp Nu W5 W5.drew := (Kp.refl _ _).drew
      refine (shares_any (t1.nu kd)).mono ?_
      rintro e w' ⟨u, ss, rfl, hr, hkh, hk⟩
      obtain ⟨ya, yc, rfl⟩ := own_slice hr
      have k2 := kd.andNu hk
      exact ⟨_, rfl, ya, yc, _, rfl, hide ⟨ss, rfl, hkh, own_base hr hw5, k2, hB5.nu k2, by have := k2.size; omega⟩⟩
    go_wp2_with fail
    try rw [hW5]
    go_region_law (first | (refine step_callL (by rfl) 26 #[.pointer (some ⟨b1, 0, none⟩)] (by go_simp; first | done | (with_reducible rfl)) _ SC ?_; rintro v6 w6 ⟨ya, yc, NS, rfl, H6⟩; have s6 : w6.cell? ⟨b, 1, none⟩ = some (.slice sa sN sc) := (by obtain ⟨_, _, _, _, _, q, _⟩ := H6.out; exact q.c1); have s6a : ∀ o, (w6.alloc o).cell? ⟨b, 1, none⟩ = some (.slice sa sN sc) := (by obtain ⟨_, _, _, _, _, q, _⟩ := H6.out; exact fun o => (q.nu (Kp.alloc _ _ _)).c1)) | (refine step_append_lies _ (by rfl) _ _ _ (by rfl) B 55 i1 _ 1 24 Tryd.underlying75 hiT1 hz01 hz11 hz21 rfl (by decide) (.slice sa sN sc) sN sl (by rfl) (by obtain ⟨_, _, _, _, _, q0, _⟩ := H6.out; have q := (q0.nu (Kp.alloc w6 (.cells #[.slice ya NS yc] 55) Nu)).s; rw [HA.out.2.2.2.2.2.1] at q; exact q) ⟨w6.heap.size, 0, none⟩ 1 1 [.slice ya NS yc] (by rfl) (by rfl) (news_one _ _) (by simp [Value.oneCell']) (by decide) (by unfold maxLen; omega) (by omega) (by rw [World.size_alloc]; obtain ⟨_, _, _, _, _, _, q⟩ := H6.out; omega) _ rfl ?_; intro g7 cap7 w7 hown7 hgrow7 hat7 hlt7; have hb7 : w7.heap[b]? = some (.cells #[.slice (some ⟨g4, 0, none⟩) (mN + 1) cap4, .slice sa sN sc, .slice ia iN ic] 78 (0, 0)) := (by obtain ⟨_, _, _, _, _, q, _⟩ := H6.out; exact bk_far (q.nu (Kp.alloc w6 (.cells #[.slice ya NS yc] 55) Nu)).blk (q.nu (Kp.alloc w6 (.cells #[.slice ya NS yc] 55) Nu)).s (by decide) hgrow7); have f7 := free3 hb7 1; have y7 := (cell3 hb7).2.1))
    all_goals
      obtain ⟨W8, hW8⟩ : ∃ W, w7.setCell ⟨b, 1, none⟩ (.slice (some ⟨g7, 0, none⟩) (sN + 1) cap7) = W := ⟨_, rfl⟩
      have H8 : Hid (∃ ss, Khd A ss ∧ ss.length = NS ∧ Bk W8 B b (.slice (some ⟨g4, 0, none⟩) (mN + 1) cap4) (.slice (some ⟨g7, 0, none⟩) (sN + 1) cap7) (.slice ia iN ic) (ml ++ [.slice xa NA xc]) (sl ++ [.slice ya NS yc]) il ∧ Kp (Bc b (.slice (some ⟨g4, 0, none⟩) (mN + 1) cap4) (.slice sa sN sc) (.slice ia iN ic)) W5 W8 ∧ W8.ownsRow w.heap.size 26 3 (.slice xa NA xc) NA (cells A) ∧ W8.ownsRow w.heap.size 105 3 (.slice ya NS yc) NS (cellsH A (srt ss)) ∧ Tb B1 W8 b1 l1 v1 A ∧ Tb B1 W8 b2 l2 v2 E ∧ B ≤ W8.heap.size ∧ w.heap.size ≤ W8.heap.size) := by
        obtain ⟨ss, hl, hkh, hr, hk, hb, hs⟩ := H6.out
        obtain ⟨hB8, k8⟩ := hb.putS (Kp.alloc w6 (.cells #[.slice ya NS yc] 55) Nu) hown7 (by rw [HA.out.2.2.2.2.2.1]) hgrow7
        rw [hW8] at hB8 k8
        obtain ⟨hb0, _, hr5, t1, t2, hs5, hw5⟩ := H5.out
        have kk : Kp (Bc b (.slice (some ⟨g4, 0, none⟩) (mN + 1) cap4) (.slice sa sN sc) (.slice ia iN ic)) W5 W8 := (hk.mono (fun _ _ e => e.elim)).trans k8 (fun _ _ e => e)
        have tb : ∀ {bb : Nat} {l : Int} {v : Value} {L : List Sg}, Tb B1 W5 bb l v L → Tb B1 W8 bb l v L := fun t => t.keepT kk (hb0.other t.blk (by decide) (by decide) (by decide) (by decide)) (fun g c hc => hb0.other hc (by decide) (by decide) (by decide) (by decide))
        exact hide ⟨ss, hkh, hl, hB8, kk, own_bc hb0 hr5 kk (by decide) (by decide) (by decide) (by decide), own_bc hb hr k8 (by decide) (by decide) (by decide) (by decide), tb t1, tb t2, by have := k8.size; omega, by have := kk.size; omega⟩
      have HT7 : Hid ((Value.slice sa sN sc).ownBlock = some g7 ∨ w.heap.size ≤ g7) := hide (hat7.imp id (fun h => by rw [World.size_alloc] at h; obtain ⟨_, _, _, _, hk, _, _⟩ := H6.out; have := hk.size; have := H5.out.2.2.2.2.2.2; omega))
      clear hown7 hgrow7 hat7 hlt7 hb7 f7 y7 s6 s6a c1 d1 SC
      have DF : Calls Tryd.prog 28 #[.pointer (some ⟨b1, 0, none⟩), .pointer (some ⟨b2, 0, none⟩)] W8 fun e w' => ∃ za zc NC, e = .returned (.tuple #[.slice za NC zc, .int .i64 0]) ∧ Hid ((dst E A).2.length = NC ∧ w'.ownsRow w.heap.size 112 4 (.slice za NC zc) NC (cellsC (dst E A).2) ∧ Kp Nu W8 w' ∧ Bk w' B b (.slice (some ⟨g4, 0, none⟩) (mN + 1) cap4) (.slice (some ⟨g7, 0, none⟩) (sN + 1) cap7) (.slice ia iN ic) (ml ++ [.slice xa NA xc]) (sl ++ [.slice ya NS yc]) il ∧ B ≤ w'.heap.size) := by
        obtain ⟨ss, _, _, hB8, kk, _, _, t1, t2, hs8, hw8⟩ := H8.out
        refine (diff_any t1 t2).mono ?_
        rintro e w' ⟨u, rfl, hr, hk⟩
        obtain ⟨za, zc, rfl⟩ := own_slice hr
        exact ⟨za, zc, _, rfl, hide ⟨rfl, own_base hr hw8, hk, hB8.nu hk, by have := hk.size; omega⟩⟩
      go_wp2_with fail
      try rw [hW8]
      refine DF.mono ?_; rintro e w9 ⟨za, zc, NC, rfl, H9⟩
      clear DF
      have c2 : w9.cell? ⟨b, 2, none⟩ = some (.slice ia iN ic) := H9.out.2.2.2.1.c2
      have f2 := free3 H9.out.2.2.2.1.blk 2
      obtain ⟨i2, hiT2, hz02, hz12, hz22⟩ := info_parts info58l
      have hi9 : Hid (w9.ownsRow B 58 1 (.slice ia iN ic) iN il) := by
        have q := H9.out.2.2.2.1.i
        rw [HA.out.2.2.2.2.2.2.1] at q
        exact hide q
      go_wp2_with (at_builtin; refine unhid ?_)
      refine wpList_append_lies _ rfl _ _ 76 rfl B 58 i2 _ 1 24 Tryd.underlying76 hiT2 hz02 hz12 hz22 rfl (by decide) (.slice ia iN ic) iN il rfl (hi9.out.alloc _) ⟨w9.heap.size, 0, none⟩ 1 1 [.slice za NC zc] (by first | rfl | (simp; done)) rfl (news_one _ _) (by simp [Value.oneCell']) (by decide) (by unfold maxLen; omega) (by omega) (by rw [World.size_alloc]; have := H9.out.2.2.2.2; omega) _ rfl ?_
      intro g10 cap10 w10 hown10 hgrow10 hat10 hlt10
      have hb10 := bk_far (H9.out.2.2.2.1.nu (Kp.alloc w9 (.cells #[.slice za NC zc] 58) Nu)).blk (H9.out.2.2.2.1.nu (Kp.alloc w9 (.cells #[.slice za NC zc] 58) Nu)).i (by decide) hgrow10
      have f10 := free3 hb10 2
      have y10 := (cell3 hb10).2.2
      obtain ⟨W11, hW11⟩ : ∃ W, w10.setCell ⟨b, 2, none⟩ (.slice (some ⟨g10, 0, none⟩) (iN + 1) cap10) = W := ⟨_, rfl⟩
      have HF : Hid (∃ mv' sv' iv' m s c ss, Bk W11 B b mv' sv' iv' (ml ++ [m]) (sl ++ [s]) (il ++ [c]) ∧ AskR w W11 A E m s c ss ∧ Kp (Bc b (.slice ma mN mc) (.slice sa sN sc) (.slice ia iN ic)) w W11) := by
        obtain ⟨hNC, hr9, hk9, hB9, hs9⟩ := H9.out
        obtain ⟨hB11, k11⟩ := hB9.putC (Kp.alloc w9 (.cells #[.slice za NC zc] 58) Nu) hown10 (by rw [HA.out.2.2.2.2.2.2.1]) hgrow10
        rw [hW11] at hB11 k11
        obtain ⟨ss, hkh, hl, hB8, kk8, r1, r2, t1, t2, hs8, hw8⟩ := H8.out
        obtain ⟨hb5, kk5, hr5, _⟩ := H5.out
        have kk : Kp (Bc b (.slice (some ⟨g4, 0, none⟩) (mN + 1) cap4) (.slice (some ⟨g7, 0, none⟩) (sN + 1) cap7) (.slice ia iN ic)) W8 W11 := (hk9.mono (fun _ _ e => e.elim)).trans k11 (fun _ _ e => e)
        refine hide ⟨_, _, _, _, _, _, ss, hB11, ⟨?_, ?_, hkh, ?_⟩, ?_⟩
        · rw [HA.out.2.2.2.2.2.2.2]; exact own_bc hB8 r1 kk (by decide) (by decide) (by decide) (by decide)
        · rw [hl]; exact own_bc hB8 r2 kk (by decide) (by decide) (by decide) (by decide)
        · rw [hNC]; exact own_bc hB9 hr9 k11 (by decide) (by decide) (by decide) (by decide)
        · have h5 : ∀ i, i < w.heap.size → some i = some g4 → some i = (Value.slice ma mN mc).ownBlock := fun i hi e => by
            rcases HT4.out with h | h
            · rw [h]; exact e
            · cases e; omega
          have h6 : ∀ i, i < w.heap.size → some i = some g7 → some i = (Value.slice sa sN sc).ownBlock := fun i hi e => by
            rcases HT7.out with h | h
            · rw [h]; exact e
            · cases e; omega
          refine (kk5.trans kk8 (fun i hi e => ?_)).trans kk (fun i hi e => ?_)
          · rcases e with e | e | e | e
            · exact .inl e
            · exact .inr (.inl (h5 i hi e))
            · exact .inr (.inr (.inl e))
            · exact .inr (.inr (.inr e))
          · rcases e with e | e | e | e
            · exact .inl e
            · exact .inr (.inl (h5 i hi e))
            · exact .inr (.inr (.inl (h6 i hi e)))
            · exact .inr (.inr (.inr e))
      clear hown10 hgrow10 hat10 hlt10 hb10
      go_wp2_with fail
      refine (num_any 0 W11).mono ?_; rintro e w' ⟨rfl, hw'⟩; obtain rfl := hw'.symm
      go_wp2_with fail
      go_ret
      exact ⟨rfl, HF.out⟩
end Go.Proofs.YtffcnonhhfhlhaaDoor.Rg
