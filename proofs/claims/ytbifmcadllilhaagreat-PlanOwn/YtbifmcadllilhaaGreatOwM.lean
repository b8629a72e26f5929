import Derived.Test.YtbifmcadllilhaaGreatPmK
import Derived.Maps.AppendAt
import Derived.Maps.OwnSet
import Derived.Laws.AppendOwn
import Derived.OwnWalk
import Derived.Test.YtbifmcadllilhaaGreatPvC
namespace Go.Proofs.YtbifmcadllilhaaGreat.Rg
open Go.RowKit Go.Maps
set_option linter.unusedVariables false

/-- what an append leaves of the block g that it was made on: the first cells as they were, and no value there that wasn't there and wasn't appended -/
structure Rw (w w' : World) (g : Nat) (e : TypeId) (n : Nat) (news : List Value) : Prop where
  obj : ∀ cur, w.heap[g]? = some (.cells cur e (0, 0)) → ∃ cur' : Array Value, w'.heap[g]? = some (.cells cur' e (0, 0)) ∧ cur'.size = cur.size ∧ cur'.toList.take n = cur.toList.take n ∧ ∀ (j : Nat) (u : Value), cur'.toList[j]? = some u → cur.toList[j]? = some u ∨ u ∈ news

theorem Rw.same {w w' : World} {g : Nat} {e : TypeId} {n : Nat} {news : List Value} (h : w'.heap[g]? = w.heap[g]?) : Rw w w' g e n news :=
  ⟨fun cur hc => ⟨cur, h.trans hc, rfl, rfl, fun _ _ hu => .inl hu⟩⟩

section
variable {P : Program} (w : World)

theorem run_append_row (base : Nat) (t ty e : TypeId) (i : TypeInfo) (z : Value) (size bytes : Nat) (ht : P.underlying t = some (.slice e)) (hi : P.info? e = some i) (hz : i.zero = some z)
    (hsize : i.size = size) (hby : i.bytes = bytes) (hzs : z.cells.size = size) (hsz : 0 < size)
    (v : Value) (n : Nat) (xs : List Value) (hown : w.ownsRow base e size v n xs)
    (a : Addr) (m c : Nat) (news : List Value) (hl : news.length = m * size) (hnews : ∀ j u, news[j]? = some u → w.cell? (a.add j) = some u) (h1 : ∀ u ∈ news, u.oneCell' = true)
    (h63 : n + m ≤ maxLen) (hbytes : (n + m) * bytes ≤ 140737488355328) (hbase : base ≤ w.heap.size) :
    ∃ v' w', (Builtin.append_ #[t, t] ty #[v, .slice (some a) m c]).run P w = .ok v' w' ∧ w'.ownsRow base e size v' (n + m) (xs ++ news) ∧ w.grownBy w' v.ownBlock ∧
      (v'.ownBlock = v.ownBlock ∨ v'.ownBlock = some w.heap.size) ∧ (∀ g, v.ownBlock = some g → Rw w w' g e (n * size) news) := by
  obtain ⟨v', w', hr, h2, h3, _, h5⟩ := run_append_own_at (P := P) w base t ty e i z size bytes ht hi hz hsize hby hzs hsz v n xs hown a m c news hl hnews h1 h63 hbytes hbase
  refine ⟨v', w', hr, h2, h3, h5, ?_⟩
  intro g hg
  subst hsize
  rcases hown.2 with ⟨rfl, rfl⟩ | ⟨g', cap, cur, rfl, hbg, hgc, hnc, hcm, hcs, htake⟩
  · simp [Value.ownBlock] at hg
  · simp only [Value.ownBlock, Option.some.injEq] at hg
    subst hg
    by_cases hroom : n + m ≤ cap
    · have hfit : n * i.size + news.length ≤ cur.size := by rw [hl, hcs, ← Nat.add_mul]; exact Nat.mul_le_mul_right _ hroom
      have hq := run_append_room (P := P) w t ty e i ht hi g' n cap cur hgc a m c news hl hnews h1 hroom hfit
      have he := hr.symm.trans hq
      simp only [Result.ok.injEq] at he
      obtain ⟨_, rfl⟩ := he
      refine ⟨fun cur0 h0 => ?_⟩
      have hcc : cur0 = cur := by rw [hgc] at h0; simpa using h0.symm
      subst hcc
      have hlt : (cur0.toList.take (n * i.size)).length = n * i.size := by rw [List.length_take, Array.length_toList]; omega
      refine ⟨_, setRow_heap w g' cur0 _ e _ hgc, ?_, ?_, ?_⟩
      · simp only [List.size_toArray, List.length_append, List.length_take, List.length_drop, Array.length_toList]
        omega
      · rw [List.append_assoc]
        conv => lhs; rw [← hlt]
        rw [hlt]
        exact List.take_left' hlt
      · intro j u hu
        simp only [List.append_assoc] at hu
        rw [List.getElem?_append] at hu
        split at hu
        · exact .inl (by rw [List.getElem?_take] at hu; split at hu <;> simp_all)
        · rw [List.getElem?_append] at hu
          split at hu
          · exact .inr (List.mem_of_getElem? hu)
          · rw [List.getElem?_drop] at hu
            left
            rw [← hu]
            congr 1
            omega
    · exact Rw.same (by
        have hq := run_append_grow (P := P) w t ty e i z ht hi hz ⟨g', 0, none⟩ n cap xs hown.1 (hown.cells (g := g') rfl) a m c news hl hnews (by omega) (by simp only [maxLen] at h63; omega) (growslice_fits (by omega) (by rw [hby]; exact hbytes))
        have he := hr.symm.trans hq
        simp only [Result.ok.injEq] at he
        obtain ⟨_, rfl⟩ := he
        exact Below.heap_alloc w.drew _ g' (blk_lt hgc))

/-- the same, at the operation -/
theorem wpList_append_row {ops : Array Oper} {rest : List Oper} {o : Oper} {a : Act} {Q : Exit → Act → World → Prop} (hgd : o.guard = none) (s x : Operand) (t : TypeId)
    (ho : o.op = .call { callee := .builtin .append, args := #[s, x], argTypes := #[t, t] })
    (base : Nat) (e : TypeId) (i : TypeInfo) (z : Value) (size bytes : Nat) (ht : P.underlying t = some (.slice e)) (hi : P.info? e = some i) (hz : i.zero = some z)
    (hsize : i.size = size) (hby : i.bytes = bytes) (hzs : z.cells.size = size) (hsz : 0 < size)
    (v : Value) (n : Nat) (xs : List Value) (hs : a.eval s = v) (hown : w.ownsRow base e size v n xs)
    (ad : Addr) (m c : Nat) (news : List Value) (hx : a.eval x = .slice (some ad) m c) (hl : news.length = m * size) (hnews : ∀ j u, news[j]? = some u → w.cell? (ad.add j) = some u) (h1 : ∀ u ∈ news, u.oneCell' = true)
    (h63 : n + m ≤ maxLen) (hbytes : (n + m) * bytes ≤ 140737488355328) (hbase : base ≤ w.heap.size)
    (h : ∀ v' w', w'.ownsRow base e size v' (n + m) (xs ++ news) → w.grownBy w' v.ownBlock → (v'.ownBlock = v.ownBlock ∨ v'.ownBlock = some w.heap.size) → (∀ g, v.ownBlock = some g → Rw w w' g e (n * size) news) → wpList P ops Q rest (a.put o.dst v') w') :
    wpList P ops Q (o :: rest) a w := by
  refine wpList_plain hgd fun K hK => ?_
  obtain ⟨v', w', hr, h2, h3, h4, h5⟩ := run_append_row (P := P) w base t o.type e i z size bytes ht hi hz hsize hby hzs hsz v n xs hown ad m c news hl hnews h1 h63 hbytes hbase
  unfold Oper.wp execOp
  simp only [ho, resolve, invoke, builtin, Sem.run_bind, Sem.run_pure, Result.andThen_ok, List.map_toArray, List.map_cons, List.map_nil, hs, hx, hr]
  exact hK _ _ (h v' w' h2 h3 h4 h5)
end

/-- a row that can be read: its first n elements -/
def Rdr (w : World) (t e : Nat) (v : Value) (n : Nat) (xs : List Value) : Prop :=
  xs.length = n * e ∧ ((v = .slice none 0 0 ∧ n = 0) ∨ ∃ g cap cur, v = .slice (some ⟨g, 0, none⟩) n cap ∧ w.heap[g]? = some (.cells cur t (0, 0)) ∧ cur.toList.take (n * e) = xs)
theorem Rdr.of_own {w : World} {B t e n : Nat} {v : Value} {xs : List Value} (h : w.ownsRow B t e v n xs) : Rdr w t e v n xs := by
  refine ⟨h.1, ?_⟩
  rcases h.2 with ⟨h1, h2⟩ | ⟨g, cap, cur, h1, _, h3, _, _, _, h7⟩
  · exact .inl ⟨h1, h2⟩
  · exact .inr ⟨g, cap, cur, h1, h3, h7⟩
theorem Rdr.keep {w w' : World} {t e n : Nat} {v : Value} {xs : List Value} (h : Rdr w t e v n xs) (hk : ∀ g, v.ownBlock = some g → w'.heap[g]? = w.heap[g]?) : Rdr w' t e v n xs := by
  refine ⟨h.1, ?_⟩
  rcases h.2 with ⟨h1, h2⟩ | ⟨g, cap, cur, rfl, h3, h7⟩
  · exact .inl ⟨h1, h2⟩
  · exact .inr ⟨g, cap, cur, rfl, (hk g rfl).trans h3, h7⟩
theorem Rdr.obj {w : World} {t e n : Nat} {v : Value} {xs : List Value} (h : Rdr w t e v n xs) {g : Nat} (hg : v.ownBlock = some g) : ∃ cur, w.heap[g]? = some (.cells cur t (0, 0)) := by
  rcases h.2 with ⟨rfl, _⟩ | ⟨g', cap, cur, rfl, h3, _⟩
  · cases hg
  · cases hg; exact ⟨cur, h3⟩
theorem Rdr.slice {w : World} {t e n : Nat} {v : Value} {xs : List Value} (h : Rdr w t e v n xs) : ∃ a c, v = .slice a n c := by
  rcases h.2 with ⟨rfl, rfl⟩ | ⟨g, cap, cur, rfl, _⟩
  · exact ⟨_, _, rfl⟩
  · exact ⟨_, _, rfl⟩
/-- a cell of such a row -/
theorem Rdr.cell {w : World} {t e n : Nat} {a : Option Addr} {c : Nat} {xs : List Value} (h : Rdr w t e (.slice a n c) n xs) {j : Nat} {u : Value} (hj : xs[j]? = some u) : ∃ g, a = some ⟨g, 0, none⟩ ∧ w.cell? ⟨g, j, none⟩ = some u := by
  have hlt := (List.getElem?_eq_some_iff.1 hj).1
  rcases h.2 with ⟨_, h2⟩ | ⟨g, cap, cur, e1, h3, h7⟩
  · rw [h.1, h2, Nat.zero_mul] at hlt; omega
  · cases e1
    refine ⟨g, rfl, ?_⟩
    rw [← h7, List.getElem?_take] at hj
    split at hj
    · simp only [World.cell?, h3]
      rw [← hj]
      simp
    · cases hj
/-- the slice that an append was made on reads as before -/
theorem Rdr.app {w w' : World} {B t e n n0 : Nat} {v v0 : Value} {xs xs0 news : List Value} (h0 : Rdr w t e v0 n0 xs0) (hn : n0 ≤ n) (hgr : w.grownBy w' v.ownBlock) (hr : ∀ g, v.ownBlock = some g → Rw w w' g t (n * e) news) : Rdr w' t e v0 n0 xs0 := by
  refine ⟨h0.1, ?_⟩
  rcases h0.2 with ⟨h1, h2⟩ | ⟨g, cap, cur, rfl, h3, h7⟩
  · exact .inl ⟨h1, h2⟩
  · by_cases c : some g = v.ownBlock
    · obtain ⟨cur', h4, _, h5, _⟩ := (hr g c.symm).obj cur h3
      refine .inr ⟨g, cap, cur', rfl, h4, ?_⟩
      rw [← h7]
      have e1 : n0 * e ≤ n * e := Nat.mul_le_mul_right _ hn
      have e2 : ∀ l : List Value, l.take (n0 * e) = (l.take (n * e)).take (n0 * e) := fun l => by rw [List.take_take, Nat.min_eq_left e1]
      rw [e2 cur'.toList, h5, ← e2]
    · exact .inr ⟨g, cap, cur, rfl, ((Kp.of_grown hgr).block g (blk_lt h3) c).trans h3, h7⟩
theorem own_lower {w : World} {B B' t e n : Nat} {v : Value} {xs : List Value} (h : w.ownsRow B t e v n xs) (hB : B' ≤ B) : w.ownsRow B' t e v n xs := by
  refine ⟨h.1, ?_⟩
  rcases h.2 with h1 | ⟨g, cap, cur, h1, h2, h3⟩
  · exact .inl h1
  · exact .inr ⟨g, cap, cur, h1, Nat.le_trans hB h2, h3⟩
end Go.Proofs.YtbifmcadllilhaaGreat.Rg
namespace Go.Proofs.YtbifmcadllilhaaGreat.Rg
open Go.RowKit Go.Shelf Go.Sort
open Go.Proofs.YtbifmcadllilhaaGreat.It
set_option linter.unusedVariables false
set_option maxRecDepth 100000 in
set_option maxHeartbeats 2000000 in
theorem moves24o (w : World) (n most : Int) (u k : Value) (M : List Sg) (ks : List Int) (hM : Sgs w u M) (hlen : (M.length : Int) ≤ 5864062014634) (hk : Us w k ks) (hkl : ks.length ≤ 4096) (hkr : ∀ x ∈ ks, 0 ≤ x ∧ x < 18446744073709551616) (hnil : ∀ m c, k = .slice none m c → c = 0) :
    Calls Tryz.prog 8 #[.int .i64 n, u, k, .int .i64 most] w fun e w' => ∃ v c, e = .returned (.tuple #[v, .int .i64 c]) ∧ (MoR w' n M ks most v c ∧ ∃ m xs, w'.ownsRow w.heap.size 41 5 v m xs) ∧ Kp Nu w w' := by
  have HO := Pn.hosts41 w n
  have LA := layOut42 w n u k M ks hM hlen hk (by omega) hnil
  obtain ⟨ad, cap, hu⟩ := hM.slice
  obtain ⟨a1, c1, rfl, _, _⟩ := id hk
  obtain ⟨KN, eN⟩ : ∃ N, ks.length = N := ⟨_, rfl⟩
  have HU := hide (And.intro hM (And.intro eN (And.intro hkl hkr)))
  rw [eN] at hkl LA ⊢
  generalize M.length = NM at hu
  subst hu
  clear hM hk eN hlen hkr hnil
  go_enter Tryz.func8, Tryz.ntmps8
  go_wp2_with fail
  refine HO.mono ?_; rintro e w1 ⟨⟨b1, rfl, hb1⟩, hw⟩
  obtain rfl := hw.symm
  have HB := hide hb1
  clear HO hb1
  cases b1 with
  | false =>
    go_wp2
    go_ret2
    exact ⟨_, _, rfl, ⟨.inl ⟨fun h => by simpa using HB.out.2 h.1, rfl, rfl⟩, 0, [], World.ownsRow_nil _ _ _ _⟩, Kp.refl _ _⟩
  | true =>
    have hn := HB.out.1 rfl
    have HN := hide hn
    clear hn HB
    by_cases q1 : most < 1
    · have d1 : decide (most < 1) = true := by simpa using q1
      have Q1 := hide q1
      clear q1 LA
      go_wp2
      go_ret2
      exact ⟨_, _, rfl, ⟨.inl ⟨fun h => by have := Q1.out; omega, rfl, rfl⟩, 0, [], World.ownsRow_nil _ _ _ _⟩, Kp.refl _ _⟩
    have d1 : decide (most < 1) = false := by simpa using q1
    by_cases q2 : most > 32
    · have d2 : decide (most > 32) = true := by simpa using q2
      have Q1 := hide q2
      clear q1 q2 LA
      go_wp2
      go_ret2
      exact ⟨_, _, rfl, ⟨.inl ⟨fun h => by have := Q1.out; omega, rfl, rfl⟩, 0, [], World.ownsRow_nil _ _ _ _⟩, Kp.refl _ _⟩
    have d2 : decide (most > 32) = false := by simpa using q2
    have HM : Hid (1 ≤ most ∧ most ≤ 32) := hide ⟨by omega, by omega⟩
    clear q1 q2
    go_wp2_with fail
    refine LA.mono ?_; rintro e w2 ⟨v, c, rfl, hP, hk2⟩
    rcases hP with ⟨h1, rfl, rfl⟩ | ⟨h1, rfl, l, h2, hD, h4⟩
    · have H := hide (And.intro h1 hk2)
      clear h1 hk2 LA
      go_wp2
      go_ret2
      exact ⟨_, _, rfl, ⟨.inr (.inl ⟨⟨HN.out, HM.out⟩, H.out.1, rfl, rfl⟩), 0, [], World.ownsRow_nil _ _ _ _⟩, H.out.2⟩
    · obtain ⟨n', hn'⟩ : ∃ n' : Nat, n = (n' : Int) := ⟨n.toNat, by have := HN.out; omega⟩
      subst hn'
      have tab := (lok_good h1.1.1 h1.1.2.1 HU.out.1.sgb).tab
      obtain ⟨L, eL⟩ : ∃ L, lays [] M = L := ⟨_, rfl⟩
      have hl8 : l.length ≤ 8192 := by
        have := congrArg List.length h2
        simp only [List.length_map] at this
        have := h1.1.2.2
        omega
      have PO := plannerOf49 w2 _ n' v l (Pn.cnt (ks.map (ow L))) h4 (by have := HN.out; omega) (by have := HN.out; omega) (fun s hs => by
          have hm : s.sg ∈ lays [] M := by rw [← h2]; exact List.mem_map.2 ⟨s, hs, rfl⟩
          exact ⟨(tab.hs _ hm).1, h1.2.1 _ hm⟩) hl8 (fun s hs => by
          have hm : s.n ∈ dl (lays [] M) ks := by rw [← hD.n]; exact List.mem_map.2 ⟨s, hs, rfl⟩
          have := dl_le _ _ _ hm
          have := HU.out.2.1
          omega) (fun q _ => by
          rw [← eL, ← sm_dl tab.cov h1.2.2 HU.out.2.2.2 q]
          unfold sl
          rw [h2, hD.n]) (fun q => by
          have := Pn.cnt_le (ks.map (ow L)) q
          rw [List.length_map, HU.out.2.1] at this
          omega)
      obtain ⟨va, vc, rfl⟩ := own_slice h4
      obtain ⟨LN, eLN⟩ : ∃ LN, l.length = LN := ⟨_, rfl⟩
      rw [eLN] at PO ⊢
      have H := hide (And.intro h1 (And.intro hk2 (And.intro h2 (And.intro hD (And.intro tab (And.intro eL hl8))))))
      clear h1 h2 hD h4 hk2 LA tab hl8 eLN eL
      go_wp2_with fail
      refine PO.mono ?_; rintro e w3 ⟨pb, rfl, lg, lt, ⟨pv, gv, tv, vs, hpla⟩, hwg, hwt, hog, hot, hlg, hlt, hpb, hk3⟩
      have HI : Hid (∃ (ms : List Mv) (σ : Sig) (L' : List Sg) (ls : List (List St)) (lg lt : List Wt) (pv gv tv : Value) (vs : List Value), ms.length = 0 ∧ MoI w n' L ks most pb w2.heap.size w3 ms (.slice none 0 0) σ L' ls lg lt pv gv tv vs) := by
        obtain ⟨h1, hk2, h2, hD, tab, eL, hl8⟩ := H.out
        have hN := HN.out
        rw [eL] at tab h2 hD
        refine hide ⟨[], sg0 n' L ks, L, _, lg, lt, pv, gv, tv, vs, rfl, hpla, hwg, hwt, hog, hot, by omega, by omega, ?_, ?_, .nil _, inv0 tab h1.2.2 HU.out.2.2.2 (by omega) (by omega), ?_, (fun m hm => by cases hm), World.ownsRow_nil _ _ _ _, hk2.andNu hk3, hk2.size, hpb⟩
        · exact rel_init h2 hD n'
        · intro i x hx
          have hi : i < n' := by
            have := (List.getElem?_eq_some_iff.1 hx).1
            simpa using this
          rw [List.getElem?_map, List.getElem?_range hi] at hx
          cases hx
          exact Nat.le_trans (List.length_filter_le _ _) hl8
        · have := sp0 n' L ks
          simpa using this
      clear PO hpla hwg hwt hog hot hlg hlt hpb hk3
      have hBw : w2.heap.size = w2.heap.size := rfl
      obtain ⟨B, eB⟩ : ∃ B, w2.heap.size = B := ⟨_, rfl⟩
      rw [eB] at HI
      clear hBw eB
      go_wp2
      go_loopw [13] (fun mv wr => ∃ (a : Option Addr) (N c : Nat), mv = .slice a N c ∧ N ≤ 4096 ∧ Hid (∃ (ms : List Mv) (σ : Sig) (L' : List Sg) (ls : List (List St)) (lg lt : List Wt) (pv gv tv : Value) (vs : List Value), ms.length = N ∧ MoI w n' L ks most pb B wr ms (.slice a N c) σ L' ls lg lt pv gv tv vs)) (fun mv _ => 4097 - lenV mv)
      case atStart => exact ⟨none, 0, 0, rfl, by omega, HI⟩
      case round =>
        obtain ⟨a, N, c, rfl, hN4, hI⟩ := hrel
        obtain ⟨ms, σ, L', ls, lg, lt, pv, gv, tv, vs, eN, hI⟩ := hI.out
        obtain ⟨ga, gc, egv⟩ := own_slice hI.pla.rg
        obtain ⟨NG, eNG⟩ : ∃ NG, lg.length = NG := ⟨_, rfl⟩
        rw [eNG] at egv
        subst egv
        have LN := len50 wr ga NG gc
        obtain ⟨p0, p1, p2⟩ := cell3 hI.pla.blk
        have HJ := hide (And.intro hI (And.intro eN eNG))
        by_cases hg0 : 0 < NG
        · have dg : decide ((NG : Int) > 0) = true := by simpa using hg0
          obtain ⟨g, kk, P0, p, l', s, hNx⟩ := hI.next (by omega)
          have hm := HM.out
          have hks := HU.out.2.1
          have hs1 := hNx.ps.n
          have hc1 := hNx.c1
          have hcl := hNx.cl
          have NX := next51 wr B pb ls lg lt pv _ tv vs most g l' s ((ks.drop p.a).take p.c) hI.pla (by omega) hNx.lt0 hI.lg16 hI.lt16 hI.hg hI.ht hNx.eg hNx.g16 hNx.lsg (by have := hI.pil g _ hNx.lsg; rw [List.length_append] at this; omega) (hNx.ps.us.nu hI.kp) ((H.out.1.2.2.drop p.a).take p.c) (fun x hx => HU.out.2.2.2 x (List.mem_of_mem_drop (List.mem_of_mem_take hx))) (by omega) (by omega) hm.1 hm.2 ⟨hNx.gp.1, by have := hNx.gp.2; omega⟩ ⟨hNx.tp.1, by have := hNx.tp.2; omega⟩
          obtain ⟨G, eG⟩ : ∃ G, we lg 0 = G := ⟨_, rfl⟩
          obtain ⟨T, eT⟩ : ∃ T, we lt 0 = T := ⟨_, rfl⟩
          rw [eG, eT] at NX
          have HX := hide (And.intro hNx (And.intro eG eT))
          clear hI hNx hm hks hs1 hc1 hcl eG eT eNG
          go_wp2_with fail
          refine LN.mono ?_; rintro e w5 ⟨rfl, hw⟩
          obtain rfl := hw.symm
          clear LN
          go_wp2_with fail
          refine NX.mono ?_; rintro e w6 ⟨lo, m, t, lg', lt', rfl, hT, hpg, hhg, hpt, hht, hpl', hk6⟩
          obtain ⟨gv', tv', vs', hpl'⟩ := hpl'
          have hrow6 : w6.ownsRow B 41 5 (.slice a N c) N (cellsMs ms) := by
            have h := HJ.out.1.row
            rw [HJ.out.2.1] at h
            exact own_keep h (fun g e => by
              obtain ⟨cc, hcc⟩ := own_obj h e
              exact sp4_other hk6 hcc (fun e2 => by rw [e2, HJ.out.1.pla.blk] at hcc; cases hcc) (by decide) (by decide) (by decide))
          have kw6 : Kp Nu w w6 := HJ.out.1.kp.trans hk6 (fun g hg e => by
            have := e.low HJ.out.1.Bw HJ.out.1.Bpb
            omega)
          have H6 := hide (And.intro hT (And.intro hpg (And.intro hhg (And.intro hpt (And.intro hht (And.intro hpl' (And.intro kw6 (And.intro hrow6 hk6))))))))
          obtain ⟨i0, hiT, hz0, hz1, hz2⟩ := info_parts info59
          clear NX hT hpg hhg hpt hht hpl' kw6 hrow6 hk6 p0 p1 p2
          go_wp2_with (at_builtin; refine unhid ?_)
          refine wpList_append_lies _ rfl _ _ 27 rfl B 41 i0 _ 5 32 Tryz.underlying27 hiT hz0 hz1 hz2 rfl (by decide) (.slice a N c) N (cellsMs ms) rfl (H6.out.2.2.2.2.2.2.2.1.alloc _) ⟨w6.heap.size, 0, none⟩ 1 1 [.int .u8 G.h, .int .u8 T.h, .int .u64 lo, .int .u64 s.sg.hi, .int .i64 (m : Int)] (by first | rfl | (simp; done)) rfl (World.news_of_block (heap_alloc_new _ _)) (by simp [Value.oneCell']) (by decide) (by unfold maxLen; omega) (by omega) (by rw [World.size_alloc]; have := blk_lt H6.out.2.2.2.2.2.1.blk; have := HJ.out.1.Bpb; omega) _ rfl ?_
          intro g3 cap3 w7 hown7 hgrow7 hat7 hlt7
          have kA7 := Kp.alloc w6 (.cells #[.int .u8 G.h, .int .u8 T.h, .int .u64 lo, .int .u64 s.sg.hi, .int .i64 (m : Int)] 41) Nu
          have kg := Kp.of_grown hgrow7
          obtain ⟨hT, hpg, hhg, hpt, hht, hpl', kw6, hrow6, hk6⟩ := H6.out
          have hrowA := own_keep hrow6 (fun g e => kA7.block g (own_lt hrow6 e) (fun h => h))
          have pla7 := (hpl'.nu kA7).oth kg (fun g e c t hg => by
            obtain ⟨cc, hcc⟩ := own_obj hrowA e.symm
            rw [hg] at hcc
            cases hcc
            rfl)
          have kw7 : Kp Nu w w7 := (kw6.andNu kA7).trans kg (fun g hg e => by
            have := (hrow6.lt g e.symm).1
            have := HJ.out.1.Bw
            omega)
          obtain ⟨hNx, eG, eT⟩ := HX.out
          have HS : Hid (∃ (ms' : List Mv) (σ' : Sig) (L'' : List Sg) (ls' : List (List St)), ms'.length = N + 1 ∧ MoI w n' L ks most pb B w7 ms' (.slice (some ⟨g3, 0, none⟩) (N + 1) cap3) σ' L'' ls' lg' lt' pv gv' tv' vs') := by
            rw [← eG, ← eT] at hT hown7
            have hmm := HJ.out.2.1
            obtain ⟨ms', σ', L'', ls', e1, e2⟩ := HJ.out.1.step hNx H.out.1.2.2 HU.out.2.2.2 HM.out.1 (by have := HJ.out.2.2; omega) hT hpg hhg hpt hht pla7 kw7 (by rw [hmm]; exact hown7)
            exact hide ⟨ms', σ', L'', ls', by omega, e2⟩
          have hN5 : N + 1 ≤ 4096 := by
            obtain ⟨ms', σ', L'', ls', e1, e2⟩ := HS.out
            have h1 := e2.bnd
            have h2 := Pn.sp_nonneg σ'.gv
            have h3 := HU.out.2.1
            omega
          clear kA7 kg hT hpg hhg hpt hht hpl' kw6 hrow6 hk6 hrowA pla7 kw7 hNx eG eT hown7 hgrow7 hat7 hlt7
          go_wp2
          obtain ⟨ms', σ', L'', ls', e1, e2⟩ := HS.out
          exact ⟨⟨some ⟨g3, 0, none⟩, N + 1, cap3, rfl, hN5, hide ⟨ms', σ', L'', ls', lg', lt', pv, gv', tv', vs', e1, e2⟩⟩, by simp [lenV]; omega⟩
        · obtain rfl : NG = 0 := by omega
          clear hI eN eNG hg0
          go_wp2_with fail
          refine LN.mono ?_; rintro e w5 ⟨rfl, hw⟩
          obtain rfl := hw.symm
          clear LN
          go_wp2
          go_ret2
          obtain ⟨hI, eN, eNG⟩ := HJ.out
          obtain ⟨h1, _, _, _, _, eL, _⟩ := H.out
          have hfin : Fin σ := by
            have e : lg = [] := List.eq_nil_of_length_eq_zero eNG
            have hw := hI.wg
            rw [e] at hw
            exact hw.none
          have hb := hI.bnd
          have hs := Pn.sp_nonneg σ.gv
          have h3 := HU.out.2.1
          refine ⟨_, _, rfl, ⟨.inr (.inr ⟨⟨HN.out, HM.out⟩, h1, rfl, n', rfl, ms, σ, ?_, hfin, ?_, by omega⟩), _, _, own_lower hI.row hI.Bw⟩, hI.kp⟩
          · rw [eL]; exact hI.stp
          · refine mvs_of_own (B := B) ?_ hI.fit
            exact hI.row
end Go.Proofs.YtbifmcadllilhaaGreat.Rg
