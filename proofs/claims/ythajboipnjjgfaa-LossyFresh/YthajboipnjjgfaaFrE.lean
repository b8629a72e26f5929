import Derived.Test.YthajboipnjjgfaaReN
namespace Go.Proofs.Ythajboipnjjgfaa.Ly
open Go.RowKit Go.Maps
set_option linter.unusedVariables false

/-- what an append leaves of the block g that it was made on: the first cells as they were, and no value there that wasn't there and wasn't appended -/
structure Rw (w w' : World) (g : Nat) (e : TypeId) (n : Nat) (news : List Value) : Prop where
  obj : ∀ cur, w.heap[g]? = some (.cells cur e (0, 0)) → ∃ cur' : Array Value, w'.heap[g]? = some (.cells cur' e (0, 0)) ∧ cur'.size = cur.size ∧ cur'.toList.take n = cur.toList.take n ∧ ∀ (j : Nat) (u : Value), cur'.toList[j]? = some u → cur.toList[j]? = some u ∨ u ∈ news

theorem Rw.same {w w' : World} {g : Nat} {e : TypeId} {n : Nat} {news : List Value} (h : w'.heap[g]? = w.heap[g]?) : Rw w w' g e n news :=
  ⟨fun cur hc => ⟨cur, h.trans hc, rfl, rfl, fun _ _ hu => .inl hu⟩⟩

section
variable {P : Program} (w : World)

theorem run_append_row (base : Nat) (t ty e : TypeId) (i : TypeInfo) (z : Value) (size bytes : Nat) (ht : P.underlying t = some (.slice e)) (hi : P.info? e = some i) (hz : i.zero = some z)
    (hsize : i.size = size) (hby : i.bytes = bytes) (hzs : z.cells.size = size) (hsz : 0 < size)
    (v : Value) (n : Nat) (xs : List Value) (hown : w.ownsRow base e size v n xs)
    (a : Addr) (m c : Nat) (news : List Value) (hl : news.length = m * size) (hnews : ∀ j u, news[j]? = some u → w.cell? (a.add j) = some u) (h1 : ∀ u ∈ news, u.oneCell' = true)
    (h63 : n + m ≤ maxLen) (hbytes : (n + m) * bytes ≤ 140737488355328) (hbase : base ≤ w.heap.size) :
    ∃ v' w', (Builtin.append_ #[t, t] ty #[v, .slice (some a) m c]).run P w = .ok v' w' ∧ w'.ownsRow base e size v' (n + m) (xs ++ news) ∧ w.grownBy w' v.ownBlock ∧
      (v'.ownBlock = v.ownBlock ∨ v'.ownBlock = some w.heap.size) ∧ (∀ g, v.ownBlock = some g → Rw w w' g e (n * size) news) := by
  obtain ⟨v', w', hr, h2, h3, _, h5⟩ := run_append_own_at (P := P) w base t ty e i z size bytes ht hi hz hsize hby hzs hsz v n xs hown a m c news hl hnews h1 h63 hbytes hbase
  refine ⟨v', w', hr, h2, h3, h5, ?_⟩
  intro g hg
  subst hsize
  rcases hown.2 with ⟨rfl, rfl⟩ | ⟨g', cap, cur, rfl, hbg, hgc, hnc, hcm, hcs, htake⟩
  · simp [Value.ownBlock] at hg
  · simp only [Value.ownBlock, Option.some.injEq] at hg
    subst hg
    by_cases hroom : n + m ≤ cap
    · have hfit : n * i.size + news.length ≤ cur.size := by rw [hl, hcs, ← Nat.add_mul]; exact Nat.mul_le_mul_right _ hroom
      have hq := run_append_room (P := P) w t ty e i ht hi g' n cap cur hgc a m c news hl hnews h1 hroom hfit
      have he := hr.symm.trans hq
      simp only [Result.ok.injEq] at he
      obtain ⟨_, rfl⟩ := he
      refine ⟨fun cur0 h0 => ?_⟩
      have hcc : cur0 = cur := by rw [hgc] at h0; simpa using h0.symm
      subst hcc
      have hlt : (cur0.toList.take (n * i.size)).length = n * i.size := by rw [List.length_take, Array.length_toList]; omega
      refine ⟨_, setRow_heap w g' cur0 _ e _ hgc, ?_, ?_, ?_⟩
      · simp only [List.size_toArray, List.length_append, List.length_take, List.length_drop, Array.length_toList]
        omega
      · rw [List.append_assoc]
        conv => lhs; rw [← hlt]
        rw [hlt]
        exact List.take_left' hlt
      · intro j u hu
        simp only [List.append_assoc] at hu
        rw [List.getElem?_append] at hu
        split at hu
        · exact .inl (by rw [List.getElem?_take] at hu; split at hu <;> simp_all)
        · rw [List.getElem?_append] at hu
          split at hu
          · exact .inr (List.mem_of_getElem? hu)
          · rw [List.getElem?_drop] at hu
            left
            rw [← hu]
            congr 1
            omega
    · exact Rw.same (by
        have hq := run_append_grow (P := P) w t ty e i z ht hi hz ⟨g', 0, none⟩ n cap xs hown.1 (hown.cells (g := g') rfl) a m c news hl hnews (by omega) (by simp only [maxLen] at h63; omega) (growslice_fits (by omega) (by rw [hby]; exact hbytes))
        have he := hr.symm.trans hq
        simp only [Result.ok.injEq] at he
        obtain ⟨_, rfl⟩ := he
        exact Below.heap_alloc w.drew _ g' (blk_lt hgc))

/-- the same, at the operation -/
theorem wpList_append_row {ops : Array Oper} {rest : List Oper} {o : Oper} {a : Act} {Q : Exit → Act → World → Prop} (hgd : o.guard = none) (s x : Operand) (t : TypeId)
    (ho : o.op = .call { callee := .builtin .append, args := #[s, x], argTypes := #[t, t] })
    (base : Nat) (e : TypeId) (i : TypeInfo) (z : Value) (size bytes : Nat) (ht : P.underlying t = some (.slice e)) (hi : P.info? e = some i) (hz : i.zero = some z)
    (hsize : i.size = size) (hby : i.bytes = bytes) (hzs : z.cells.size = size) (hsz : 0 < size)
    (v : Value) (n : Nat) (xs : List Value) (hs : a.eval s = v) (hown : w.ownsRow base e size v n xs)
    (ad : Addr) (m c : Nat) (news : List Value) (hx : a.eval x = .slice (some ad) m c) (hl : news.length = m * size) (hnews : ∀ j u, news[j]? = some u → w.cell? (ad.add j) = some u) (h1 : ∀ u ∈ news, u.oneCell' = true)
    (h63 : n + m ≤ maxLen) (hbytes : (n + m) * bytes ≤ 140737488355328) (hbase : base ≤ w.heap.size)
    (h : ∀ v' w', w'.ownsRow base e size v' (n + m) (xs ++ news) → w.grownBy w' v.ownBlock → (v'.ownBlock = v.ownBlock ∨ v'.ownBlock = some w.heap.size) → (∀ g, v.ownBlock = some g → Rw w w' g e (n * size) news) → wpList P ops Q rest (a.put o.dst v') w') :
    wpList P ops Q (o :: rest) a w := by
  refine wpList_plain hgd fun K hK => ?_
  obtain ⟨v', w', hr, h2, h3, h4, h5⟩ := run_append_row (P := P) w base t o.type e i z size bytes ht hi hz hsize hby hzs hsz v n xs hown ad m c news hl hnews h1 h63 hbytes hbase
  unfold Oper.wp execOp
  simp only [ho, resolve, invoke, builtin, Sem.run_bind, Sem.run_pure, Result.andThen_ok, List.map_toArray, List.map_cons, List.map_nil, hs, hx, hr]
  exact hK _ _ (h v' w' h2 h3 h4 h5)
end

/-- n bytes, all of them m: what a caller that marks its slice sees -/
def Mr (w : World) (B : Nat) (v : Value) (n : Nat) (m : Int) : Prop := w.ownsRow B 5 1 v n (List.replicate n (.int .u8 m))

theorem Mr.turn {w w' : World} {B g n k q : Nat} {v : Value} {m : Int} (h : Mr w B v n m) (hg : v.ownBlock = some g) (hr : Rw w w' g 5 q (List.replicate k (.int .u8 m))) : Mr w' B v n m := by
  rcases h.2 with ⟨rfl, rfl⟩ | ⟨g', cap, cur, rfl, hbg, hgc, hnc, hcm, hcs, htake⟩
  · simp [Value.ownBlock] at hg
  · simp only [Value.ownBlock, Option.some.injEq] at hg
    subst hg
    obtain ⟨cur', h1, h2, h3, h4⟩ := hr.obj cur hgc
    refine ⟨h.1, .inr ⟨g', cap, cur', rfl, hbg, h1, hnc, hcm, h2.trans hcs, ?_⟩⟩
    apply List.ext_getElem?
    intro j
    by_cases hj : j < n
    · have hjc : j < cur'.toList.length := by rw [Array.length_toList, h2, hcs]; omega
      have hu : cur'.toList[j]? = some cur'.toList[j] := List.getElem?_eq_getElem hjc
      rw [List.getElem?_take, if_pos (by omega), hu, List.getElem?_replicate, if_pos hj]
      congr 1
      rcases h4 j _ hu with hc | hn
      · have ht : (cur.toList.take (n * 1))[j]? = (List.replicate n (Value.int .u8 m))[j]? := by rw [htake]
        rw [List.getElem?_take, if_pos (by omega), hc, List.getElem?_replicate, if_pos hj] at ht
        simpa using ht
      · exact (List.mem_replicate.mp hn).2
    · rw [List.getElem?_take, if_neg (by omega), List.getElem?_replicate, if_neg hj]

end Go.Proofs.Ythajboipnjjgfaa.Ly
namespace Go.Proofs.Ythajboipnjjgfaa.Ly
open Go.RowKit Go.Maps
set_option linter.unusedVariables false

theorem cs_rep (n : Nat) (m : Int) : cs (List.replicate n m) = List.replicate n (.int .u8 m) := by simp [cs]
theorem Mr.rd {w : World} {B n : Nat} {v : Value} {m : Int} (h : Mr w B v n m) : Rd w v (List.replicate n m) := by
  have h' : w.ownsRow B 5 1 v n (cs (List.replicate n m)) := by rw [cs_rep]; exact h
  exact Rd.of_own h'

set_option maxHeartbeats 400000 in
theorem marked_any {w : World} {u : Value} {n : Nat} {m : Int} (h : Rd w u (List.replicate n m)) (hn0 : 0 < n) (hb : (n : Int) ≤ 140737488355328) :
    Calls Try.prog 50 #[u, .int .i64 (n : Int), .int .u8 m] w fun e w' => e = .returned (.bool true) ∧ Kp Nu w w' := by
  rcases h with ⟨_, e⟩ | ⟨a, cap, rfl, hc⟩
  · have := congrArg List.length e; simp at this; omega
  rw [List.length_replicate]
  have HC := hide hc
  have hnn : ((n : Int) != (n : Int)) = false := by simp
  clear hc
  go_enter Try.func50, Try.ntmps50
  go_wp2_with fail
  go_loopw [7] (fun i wr => ∃ (j q : Nat), j ≤ n ∧ i = .int .i64 (j : Int) ∧ wr = w.drewN q) (fun i _ => n - (intOf i).toNat)
  case atStart => exact ⟨0, 0, by omega, rfl, rfl⟩
  case round =>
    obtain ⟨j, q, hj, rfl, rfl⟩ := hrel
    by_cases hlt : j < n
    · have hc1 := HC.out j (.int .u8 m) (by rw [cs_rep, List.getElem?_replicate, if_pos hlt])
      have hltI : (j : Int) < (n : Int) := by omega
      have hj0 : (0 : Int) ≤ (j : Int) := by omega
      have hxx : (m != m) = false := by simp
      go_wp2_with fail
      exact ⟨⟨j + 1, q, by omega, by go_num, rfl⟩, by simp [intOf]; omega⟩
    · have hge : ¬ (j : Int) < (n : Int) := by omega
      go_wp2
      go_ret
      exact ⟨rfl, kp_drewN _ _⟩
end Go.Proofs.Ythajboipnjjgfaa.Ly
namespace Go.Proofs.Ythajboipnjjgfaa.Ly
open Go.RowKit Go.Maps
set_option linter.unusedVariables false

/-- what a caller holds: a slice, what four appends made of it, its length and its mark -/
structure Hh where
  l : Value
  g1 : Value
  g2 : Value
  g3 : Value
  g9 : Value
  n : Nat
  m : Int
def Hh.cells (h : Hh) : List Value := [h.l, h.g1, h.g2, h.g3, h.g9, .int .u8 h.m]
def hcs (L : List Hh) : List Value := L.flatMap Hh.cells
theorem hcs_length (L : List Hh) : (hcs L).length = L.length * 6 := by
  induction L with
  | nil => rfl
  | cons x r ih => simp only [hcs, List.flatMap_cons, List.length_append, List.length_cons] at ih ⊢; rw [ih]; simp [Hh.cells]; omega
theorem hcs_append (a b : List Hh) : hcs (a ++ b) = hcs a ++ hcs b := by simp [hcs]
theorem hcs_at : ∀ (L : List Hh) (i : Nat) (g : Hh), L[i]? = some g → ∀ j, j < 6 → (hcs L)[i * 6 + j]? = g.cells[j]?
  | [], i, g, hi, j, hj => by simp at hi
  | x :: r, 0, g, hi, j, hj => by
    simp at hi
    subst hi
    simp only [hcs, List.flatMap_cons, Nat.zero_mul, Nat.zero_add]
    rw [List.getElem?_append_left (by simp [Hh.cells]; omega)]
  | x :: r, i + 1, g, hi, j, hj => by
    have := hcs_at r i g (by simpa using hi) j hj
    simp only [hcs, List.flatMap_cons] at this ⊢
    rw [List.getElem?_append_right (by simp [Hh.cells]; omega), ← this]
    congr 1
    simp [Hh.cells]
    omega

/-- all that it holds is marked -/
structure Hm (w : World) (B : Nat) (h : Hh) : Prop where
  l : Mr w B h.l h.n h.m
  g1 : Mr w B h.g1 (h.n + 1) h.m
  g2 : Mr w B h.g2 (h.n + 2) h.m
  g3 : Mr w B h.g3 (h.n + 3) h.m
  g9 : Mr w B h.g9 (h.n + 80) h.m
  pos : 0 < h.n
  le : h.n ≤ 1024
theorem Mr.keep {w w' : World} {B n : Nat} {v : Value} {m : Int} (h : Mr w B v n m) (hk : ∀ g, v.ownBlock = some g → w'.heap[g]? = w.heap[g]?) : Mr w' B v n m := own_keep h hk
theorem Mr.nu {w w' : World} {B n : Nat} {v : Value} {m : Int} (h : Mr w B v n m) (k : Kp Nu w w') : Mr w' B v n m := h.keep (fun g hg => k.block g (own_lt h hg) (fun h => h))
theorem Hm.nu {w w' : World} {B : Nat} {h : Hh} (q : Hm w B h) (k : Kp Nu w w') : Hm w' B h := ⟨q.l.nu k, q.g1.nu k, q.g2.nu k, q.g3.nu k, q.g9.nu k, q.pos, q.le⟩

theorem row_at47 {w : World} {B : Nat} {v : Value} {L : List Hh} (h : w.ownsRow B 47 6 v L.length (hcs L)) {i : Nat} {g : Hh} (hi : L[i]? = some g) : ∃ r cap, v = .slice (some ⟨r, 0, none⟩) L.length cap ∧ w.cell? ⟨r, i * 6, none⟩ = some g.l ∧ w.cell? ⟨r, i * 6 + 1, none⟩ = some g.g1 ∧ w.cell? ⟨r, i * 6 + 2, none⟩ = some g.g2 ∧ w.cell? ⟨r, i * 6 + 3, none⟩ = some g.g3 ∧ w.cell? ⟨r, i * 6 + 4, none⟩ = some g.g9 ∧ w.cell? ⟨r, i * 6 + 5, none⟩ = some (.int .u8 g.m) := by
  have hlt : i < L.length := (List.getElem?_eq_some_iff.1 hi).1
  rcases h.2 with ⟨_, h0⟩ | ⟨r, cap, cur, e, hB, hg, h1, h2, h3, h4⟩
  · omega
  · have key : ∀ j, j < 6 → cur[i * 6 + j]? = g.cells[j]? := by
      intro j hj
      have e1 := hcs_at L i g hi j hj
      rw [← h4, List.getElem?_take_of_lt (by omega)] at e1
      simpa using e1
    refine ⟨r, cap, e, ?_, ?_, ?_, ?_, ?_, ?_⟩
    · simpa [World.cell?, hg, Hh.cells] using key 0 (by omega)
    · simpa [World.cell?, hg, Hh.cells] using key 1 (by omega)
    · simpa [World.cell?, hg, Hh.cells] using key 2 (by omega)
    · simpa [World.cell?, hg, Hh.cells] using key 3 (by omega)
    · simpa [World.cell?, hg, Hh.cells] using key 4 (by omega)
    · simpa [World.cell?, hg, Hh.cells] using key 5 (by omega)

theorem cell6 {w : World} {b : Nat} {x0 x1 x2 x3 x4 x5 : Value} {t : TypeId} (h : w.heap[b]? = some (.cells #[x0, x1, x2, x3, x4, x5] t (0, 0))) :
    w.cell? ⟨b, 0, none⟩ = some x0 ∧ w.cell? ⟨b, 1, none⟩ = some x1 ∧ w.cell? ⟨b, 2, none⟩ = some x2 ∧ w.cell? ⟨b, 3, none⟩ = some x3 ∧ w.cell? ⟨b, 4, none⟩ = some x4 ∧ w.cell? ⟨b, 5, none⟩ = some x5 := by
  refine ⟨?_, ?_, ?_, ?_, ?_, ?_⟩ <;> simp [World.cell?, h]

set_option maxRecDepth 100000 in
set_option maxHeartbeats 1000000 in
theorem untouched_any {w : World} {B : Nat} {v : Value} {L : List Hh} (h : w.ownsRow B 47 6 v L.length (hcs L)) (hL : ∀ x ∈ L, Hm w B x) (hb : (L.length : Int) ≤ 100000) :
    Calls Try.prog 29 #[v] w fun e w' => e = .returned (.bool true) ∧ Kp Nu w w' := by
  obtain ⟨ad, cap, hu⟩ := own_slice h
  obtain ⟨N, hN⟩ : ∃ N, L.length = N := ⟨_, rfl⟩
  have HH := hide (And.intro h (And.intro hL hN))
  rw [hN] at hu hb
  have HU := hide hu
  subst hu
  clear h hL hN
  go_enter Try.func29, Try.ntmps29
  go_wp2_with fail
  go_loopw [3] (fun i wr => ∃ (k : Nat), k ≤ N ∧ i = .int .i64 (k : Int) ∧ Hid (Kp Nu w wr)) (fun i _ => N - (intOf i).toNat)
  case atStart => exact ⟨0, by omega, rfl, Kp.refl _ _⟩
  case round =>
    obtain ⟨k, hk, rfl, hK⟩ := hrel
    by_cases hlt : k < N
    · obtain ⟨h, hL, hN⟩ := HH.out
      obtain ⟨g, hg⟩ : ∃ g, L[k]? = some g := ⟨_, List.getElem?_eq_getElem (by omega)⟩
      have hM := (hL g (List.mem_of_getElem? hg)).nu hK.out
      have hO := own_keep h (w' := wr) (fun i hi => hK.out.block i (own_lt h hi) (fun h => h))
      obtain ⟨r, c1, hv, x0, x1, x2, x3, x4, x5⟩ := row_at47 hO hg
      simp only [Value.slice.injEq] at hv
      obtain ⟨p1, q1, s1⟩ := hv
      subst p1
      obtain ⟨al, cl, el⟩ := hM.l.rd.slice
      obtain ⟨a1, k1, el1⟩ := hM.g1.rd.slice
      obtain ⟨a2, k2, el2⟩ := hM.g2.rd.slice
      obtain ⟨a3, k3, el3⟩ := hM.g3.rd.slice
      obtain ⟨a9, k9, el9⟩ := hM.g9.rd.slice
      rw [List.length_replicate] at el el1 el2 el3 el9
      obtain ⟨gl, g1, g2, g3, g9, n, m⟩ := g
      simp only at *
      have HM := hide hM
      have hn1 : (n : Int) ≤ 1024 := by have := hM.le; simp only at this; omega
      have hltI : (k : Int) < (N : Int) := by omega
      have hk0 : (0 : Int) ≤ (k : Int) := by omega
      subst el el1 el2 el3 el9
      clear h hL hN hM hO hg q1 s1
      obtain ⟨ob, hob⟩ : ∃ o, (Obj.cells #[Value.slice al n cl, Value.slice a1 (n + 1) k1, Value.slice a2 (n + 2) k2, Value.slice a3 (n + 3) k3, Value.slice a9 (n + 80) k9, Value.int IntKind.u8 m] 47) = o := ⟨_, rfl⟩
      have KA : Kp Nu wr (wr.alloc ob) := Kp.alloc wr ob Nu
      have hbx : (wr.alloc ob).heap[wr.heap.size]? = some ob := heap_alloc_new wr ob
      have MA := marked_any (n := n) (HM.out.nu KA).l.rd HM.out.pos (by omega)
      have MS : ∀ W, Kp Nu (wr.alloc ob) W → Calls Try.prog 50 #[.slice a1 (n + 1) k1, .int .i64 ((n : Int) + 1), .int .u8 m] W (fun e w' => e = .returned (.bool true) ∧ Kp Nu W w') ∧ Calls Try.prog 50 #[.slice a2 (n + 2) k2, .int .i64 ((n : Int) + 2), .int .u8 m] W (fun e w' => e = .returned (.bool true) ∧ Kp Nu W w') ∧ Calls Try.prog 50 #[.slice a3 (n + 3) k3, .int .i64 ((n : Int) + 3), .int .u8 m] W (fun e w' => e = .returned (.bool true) ∧ Kp Nu W w') ∧ Calls Try.prog 50 #[.slice a9 (n + 80) k9, .int .i64 ((n : Int) + 80), .int .u8 m] W (fun e w' => e = .returned (.bool true) ∧ Kp Nu W w') := fun W kW =>
        ⟨marked_any (n := n + 1) ((HM.out.nu KA).nu kW).g1.rd (by omega) (by omega), marked_any (n := n + 2) ((HM.out.nu KA).nu kW).g2.rd (by omega) (by omega), marked_any (n := n + 3) ((HM.out.nu KA).nu kW).g3.rd (by omega) (by omega), marked_any (n := n + 80) ((HM.out.nu KA).nu kW).g9.rd (by omega) (by omega)⟩
      have CS : ∀ W, Kp Nu (wr.alloc ob) W → W.cell? ⟨wr.heap.size, 0, none⟩ = some (.slice al n cl) ∧ W.cell? ⟨wr.heap.size, 1, none⟩ = some (.slice a1 (n + 1) k1) ∧ W.cell? ⟨wr.heap.size, 2, none⟩ = some (.slice a2 (n + 2) k2) ∧ W.cell? ⟨wr.heap.size, 3, none⟩ = some (.slice a3 (n + 3) k3) ∧ W.cell? ⟨wr.heap.size, 4, none⟩ = some (.slice a9 (n + 80) k9) ∧ W.cell? ⟨wr.heap.size, 5, none⟩ = some (.int .u8 m) := fun W kW => by
        refine cell6 (t := 47) ?_
        rw [kW.block _ (blk_lt hbx) (fun h => h), hbx, ← hob]
      have hW : wr.heap.size < (wr.alloc ob).heap.size := blk_lt hbx
      have HOB := hide hob
      clear hbx hob
      go_wp2_with fail
      rw [HOB.out]
      refine MA.mono ?_; rintro e w1 ⟨rfl, hk1⟩
      obtain ⟨c0, c1, c2, c3, c4, c5⟩ := CS w1 hk1
      have M1 := (MS w1 hk1).1
      clear MA c0 c2 c3 c4
      go_wp2_with fail
      refine M1.mono ?_; rintro e w2 ⟨rfl, hk2⟩
      clear M1 c1 c5
      have kk2 := hk1.andNu hk2
      obtain ⟨c0, c1, c2, c3, c4, c5⟩ := CS w2 kk2
      have M1 := (MS w2 kk2).2.1
      clear c0 c1 c3 c4
      go_wp2_with fail
      refine M1.mono ?_; rintro e w3 ⟨rfl, hk3⟩
      clear M1 c2 c5
      have kk3 := kk2.andNu hk3
      obtain ⟨c0, c1, c2, c3, c4, c5⟩ := CS w3 kk3
      have M1 := (MS w3 kk3).2.2.1
      clear c0 c1 c2 c4
      go_wp2_with fail
      refine M1.mono ?_; rintro e w4 ⟨rfl, hk4⟩
      clear M1 c3 c5
      have kk4 := kk3.andNu hk4
      obtain ⟨c0, c1, c2, c3, c4, c5⟩ := CS w4 kk4
      have M1 := (MS w4 kk4).2.2.2
      clear c0 c1 c2 c3
      go_wp2_with fail
      refine M1.mono ?_; rintro e w5 ⟨rfl, hk5⟩
      have kk5 := (hK.out.andNu KA).andNu (kk4.andNu hk5)
      clear M1 c4 c5
      go_wp2
      exact ⟨⟨k + 1, by omega, by go_num, kk5⟩, by simp [intOf]; omega⟩
    · have hge : ¬ (k : Int) < (N : Int) := by omega
      have HK := hK.out
      go_wp2
      go_ret
      exact ⟨rfl, HK⟩
end Go.Proofs.Ythajboipnjjgfaa.Ly
namespace Go.Proofs.Ythajboipnjjgfaa.Ly
open Go.RowKit Go.Maps
set_option linter.unusedVariables false

/-- an append of marks to one marked slice leaves every other marked slice marked, also one that shares its row -/
theorem Mr.other {w w' : World} {B n k q : Nat} {x u : Value} {m : Int} (h : Mr w B x n m) (hg : w.grownBy w' u.ownBlock) (hr : ∀ g, u.ownBlock = some g → Rw w w' g 5 q (List.replicate k (.int .u8 m))) : Mr w' B x n m := by
  cases hx : x.ownBlock with
  | none => exact h.keep (fun g hg' => by rw [hx] at hg'; cases hg')
  | some g =>
    by_cases he : some g = u.ownBlock
    · exact h.turn hx (hr g he.symm)
    · exact h.keep (fun g' hg' => by
        rw [hx] at hg'
        cases hg'
        exact hg.block g (own_lt h hx) he)

/-- a block of another type is written -/
theorem Mr.set {w : World} {B n b o : Nat} {x u : Value} {m : Int} {cur : Array Value} {t : TypeId} (h : Mr w B x n m) (hb : w.heap[b]? = some (.cells cur t (0, 0))) (ht : t ≠ 5) : Mr (w.setCell ⟨b, o, none⟩ u) B x n m :=
  h.keep (fun g hg => Below.heap_setCell _ ⟨b, o, none⟩ _ g (fun e => by
    have e : g = b := e
    obtain ⟨c, hc⟩ := own_obj h hg
    rw [e, hb] at hc
    cases hc
    exact ht rfl))

def z47 : Array Value := #[.slice none 0 0, .slice none 0 0, .slice none 0 0, .slice none 0 0, .slice none 0 0, .int .u8 0]

/-- in the midst of hold: the box, the result's block, the marked slices -/
structure Hs (w wr : World) (B gb H R : Nat) (m : Int) (bx : Array Value) (P : List (Value × Nat)) : Prop where
  box : wr.heap[H]? = some (.cells bx 47 (0, 0))
  res : wr.heap[R]? = some (.cells z47 47 (0, 0))
  kp : Kp (fun k => k = gb) w wr
  row : ∀ p ∈ P, Mr wr B p.1 p.2 m ∧ ∀ g, p.1.ownBlock = some g → g = gb ∨ w.heap.size ≤ g
  hH : w.heap.size ≤ H
  hR : w.heap.size ≤ R
  ne : H ≠ R
  base : B ≤ w.heap.size

section
variable {w wr : World} {B gb H R : Nat} {m : Int} {bx : Array Value} {P : List (Value × Nat)}
theorem Hs.alloc (h : Hs w wr B gb H R m bx P) (o : Obj) : Hs w (wr.alloc o) B gb H R m bx P :=
  ⟨(Below.heap_alloc wr o _ (blk_lt h.box)).trans h.box, (Below.heap_alloc wr o _ (blk_lt h.res)).trans h.res, h.kp.andAlloc o, fun p hp => ⟨(h.row p hp).1.nu (Kp.alloc wr o Nu), (h.row p hp).2⟩, h.hH, h.hR, h.ne, h.base⟩
theorem Hs.put (h : Hs w wr B gb H R m bx P) (i : Nat) (x : Value) : Hs w (wr.setCell ⟨H, i, none⟩ x) B gb H R m (bx.setIfInBounds i x) P :=
  ⟨set3 h.box i x, (Below.heap_setCell _ ⟨H, i, none⟩ _ R (fun e => h.ne (Eq.symm e))).trans h.res, h.kp.andSet _ _ (.inl h.hH), fun p hp => ⟨(h.row p hp).1.set h.box (by decide), (h.row p hp).2⟩, h.hH, h.hR, h.ne, h.base⟩
theorem Hs.ge (h : Hs w wr B gb H R m bx P) : w.heap.size ≤ wr.heap.size := h.kp.size
theorem Hs.app {W' : World} {u v' : Value} {q k : Nat} (h : Hs w wr B gb H R m bx P) (hu : (u, q) ∈ P)
    (ho : W'.ownsRow B 5 1 v' (q + k) (List.replicate q (.int .u8 m) ++ List.replicate k (.int .u8 m))) (hg : wr.grownBy W' u.ownBlock) (hat : v'.ownBlock = u.ownBlock ∨ v'.ownBlock = some wr.heap.size)
    (hr : ∀ g, u.ownBlock = some g → Rw wr W' g 5 (q * 1) (List.replicate k (.int .u8 m))) : Hs w W' B gb H R m bx ((v', q + k) :: P) := by
  obtain ⟨hM, hlie⟩ := h.row (u, q) hu
  have hno : ∀ b cur, wr.heap[b]? = some (.cells cur 47 (0, 0)) → some b ≠ u.ownBlock := fun b cur hb e => by
    obtain ⟨c, hc⟩ := own_obj hM e.symm
    rw [hb] at hc
    cases hc
  refine ⟨(hg.block _ (blk_lt h.box) (hno _ _ h.box)).trans h.box, (hg.block _ (blk_lt h.res) (hno _ _ h.res)).trans h.res, ?_, ?_, h.hH, h.hR, h.ne, h.base⟩
  · exact h.kp.trans (Kp.of_grown hg) (fun i hi e => by
      rcases hlie i e.symm with e | e
      · exact e
      · omega)
  · intro p hp
    rcases List.mem_cons.1 hp with rfl | hp
    · refine ⟨?_, fun g hg' => ?_⟩
      · show W'.ownsRow B 5 1 v' (q + k) _
        rw [← List.replicate_append_replicate]
        exact ho
      · rcases hat with e | e
        · exact hlie g (by rw [← e]; exact hg')
        · have : v'.ownBlock = some g := hg'
          rw [e] at this
          cases this
          exact .inr h.ge
    · exact ⟨(h.row p hp).1.other hg hr, (h.row p hp).2⟩
end
end Go.Proofs.Ythajboipnjjgfaa.Ly
namespace Go.Proofs.Ythajboipnjjgfaa.Ly
open Go.RowKit Go.Maps
set_option linter.unusedVariables false

theorem rep_new (w : World) (k : Nat) (m : Int) (t : TypeId) : ∀ j u, (List.replicate k (Value.int .u8 m))[j]? = some u → (w.alloc (.cells (List.replicate k (Value.int .u8 m)).toArray t)).cell? ((⟨w.heap.size, 0, none⟩ : Addr).add j) = some u := by
  intro j u hj
  rw [Addr.add_lit]
  simp only [World.cell?, heap_alloc_new]
  simp only [Nat.zero_add, List.getElem?_toArray]
  exact hj

theorem newAt (w : World) (xs : List Value) (t : TypeId) (s : Nat) (hs : w.heap.size = s) : ∀ j u, xs[j]? = some u → (w.alloc (.cells xs.toArray t)).cell? ((⟨s, 0, none⟩ : Addr).add j) = some u := by
  intro j u hj
  subst hs
  rw [Addr.add_lit]
  simp only [World.cell?, heap_alloc_new]
  simp only [Nat.zero_add, List.getElem?_toArray]
  exact hj

/-- while the slice is written over -/
structure Ho (w wr : World) (B gb R n cap j : Nat) (m : Int) : Prop where
  own : ∃ xs, wr.ownsRow B 5 1 (.slice (some ⟨gb, 0, none⟩) n cap) n xs ∧ ∀ t, t < j → xs[t]? = some (.int .u8 m)
  res : wr.heap[R]? = some (.cells z47 47 (0, 0))
  kp : Kp (fun k => k = gb) w wr
theorem Ho.set {w wr : World} {B gb R n cap j : Nat} {m : Int} (h : Ho w wr B gb R n cap j m) (hj : j < n) : Ho w (wr.setCell ⟨gb, j, none⟩ (.int .u8 m)) B gb R n cap (j + 1) m := by
  obtain ⟨xs, ho, hx⟩ := h.own
  have hlen : xs.length = n := by have := ho.1; omega
  refine ⟨⟨xs.set j (.int .u8 m), (ho.stored j _).1, fun t ht => ?_⟩, ?_, h.kp.andSet _ _ (.inr rfl)⟩
  · rw [List.getElem?_set]
    by_cases e : j = t
    · subst e; simp; omega
    · rw [if_neg e]; exact hx t (by omega)
  · refine (Below.heap_setCell _ ⟨gb, j, none⟩ _ R (fun e => ?_)).trans h.res
    have e : R = gb := e
    obtain ⟨c, hc⟩ := own_obj ho (g := gb) rfl
    rw [← e, h.res] at hc
    cases hc
theorem Ho.done {w wr : World} {B gb R n cap : Nat} {m : Int} (h : Ho w wr B gb R n cap n m) : Mr wr B (.slice (some ⟨gb, 0, none⟩) n cap) n m := by
  obtain ⟨xs, ho, hx⟩ := h.own
  have hlen : xs.length = n := by have := ho.1; omega
  have e : xs = List.replicate n (.int .u8 m) := by
    apply List.ext_getElem?
    intro t
    by_cases ht : t < n
    · rw [hx t ht, List.getElem?_replicate, if_pos ht]
    · rw [List.getElem?_eq_none (by omega), List.getElem?_replicate, if_neg ht]
  rw [e] at ho
  exact ho
theorem Ho.at {w wr : World} {B gb R n cap j : Nat} {m : Int} (h : Ho w wr B gb R n cap j m) {t : Nat} (ht : t < n) : (∃ x, wr.cell? ⟨gb, t, none⟩ = some x) ∧ wr.frozen? ⟨gb, t, none⟩ = false := by
  obtain ⟨xs, ho, hx⟩ := h.own
  have hlen : xs.length = n := by have := ho.1; omega
  refine ⟨⟨xs[t]'(by omega), ?_⟩, ho.frozenAt t⟩
  have := ho.cells (g := gb) rfl t (xs[t]'(by omega)) (List.getElem?_eq_getElem (by omega))
  rwa [Addr.add_lit, Nat.zero_add] at this

theorem Hs.rowM {w wr : World} {B gb H R : Nat} {m : Int} {bx : Array Value} {u : Value} {q : Nat} {P : List (Value × Nat)} (h : Hs w wr B gb H R m bx P) (hp : (u, q) ∈ P) : wr.ownsRow B 5 1 u q (List.replicate q (.int .u8 m)) := (h.row (u, q) hp).1
theorem Hs.sub {w wr : World} {B gb H R : Nat} {m : Int} {bx : Array Value} {P Q : List (Value × Nat)} (h : Hs w wr B gb H R m bx P) (hp : ∀ p ∈ Q, p ∈ P) : Hs w wr B gb H R m bx Q := ⟨h.box, h.res, h.kp, fun p q => h.row p (hp p q), h.hH, h.hR, h.ne, h.base⟩
theorem Hs.out6 {w wr : World} {B gb H R : Nat} {m : Int} {bx : Array Value} {P : List (Value × Nat)} (h : Hs w wr B gb H R m bx P) (x0 x1 x2 x3 x4 x5 : Value) :
    ∃ W, W = ((((((wr.setCell ⟨R, 0, none⟩ x0).setCell ⟨R, 1, none⟩ x1).setCell ⟨R, 2, none⟩ x2).setCell ⟨R, 3, none⟩ x3).setCell ⟨R, 4, none⟩ x4).setCell ⟨R, 5, none⟩ x5) ∧ W.heap[R]? = some (.cells #[x0, x1, x2, x3, x4, x5] 47 (0, 0)) ∧ Kp (fun k => k = gb) w W ∧ ∀ p ∈ P, Mr W B p.1 p.2 m := by
  refine ⟨_, rfl, ?_, ?_, ?_⟩
  · exact set3 (set3 (set3 (set3 (set3 (set3 h.res 0 x0) 1 x1) 2 x2) 3 x3) 4 x4) 5 x5
  · exact (((((h.kp.andSet _ _ (.inl h.hR)).andSet _ _ (.inl h.hR)).andSet _ _ (.inl h.hR)).andSet _ _ (.inl h.hR)).andSet _ _ (.inl h.hR)).andSet _ _ (.inl h.hR)
  · intro p hp
    have e0 := set3 h.res 0 x0
    have e1 := set3 e0 1 x1
    have e2 := set3 e1 2 x2
    have e3 := set3 e2 3 x3
    have e4 := set3 e3 4 x4
    exact ((((((h.row p hp).1.set h.res (by decide)).set e0 (by decide)).set e1 (by decide)).set e2 (by decide)).set e3 (by decide)).set e4 (by decide)
theorem info47s : (Try.prog.info? 47).map (·.size) = some 6 := by kernel_rfl
theorem Hs.row1 {w wr : World} {B gb H R : Nat} {m : Int} {bx : Array Value} {u : Value} {q : Nat} {P : List (Value × Nat)} (h : Hs w wr B gb H R m bx (P ++ [(u, q)])) : wr.ownsRow B 5 1 u q (List.replicate q (.int .u8 m)) := (h.row (u, q) (by simp)).1

set_option maxRecDepth 100000 in
set_option maxHeartbeats 1000000 in
theorem hold_any {w : World} {B gb n cap : Nat} {xs : List Value} (h : w.ownsRow B 5 1 (.slice (some ⟨gb, 0, none⟩) n cap) n xs) (hn0 : 0 < n) (hn1 : n ≤ 1024) (hB : B ≤ w.heap.size) (m : Int) (m0 : 0 ≤ m) (m1 : m < 256) :
    Calls Try.prog 27 #[.slice (some ⟨gb, 0, none⟩) n cap, .int .u8 m] w fun e w' => ∃ g1 g2 g3 g9, e = .returned (.agg #[.slice (some ⟨gb, 0, none⟩) n cap, g1, g2, g3, g9, .int .u8 m]) ∧ Hm w' B ⟨.slice (some ⟨gb, 0, none⟩) n cap, g1, g2, g3, g9, n, m⟩ ∧ Kp (fun k => k = gb) w w' ∧ ∀ x ∈ [g1, g2, g3, g9], ∀ g, x.ownBlock = some g → g = gb ∨ w.heap.size ≤ g := by
  obtain ⟨i5, hi5, hz50, hz51, hz52⟩ := info_parts info5
  have HH := hide h
  have hgb : gb < w.heap.size := own_lt h rfl
  have H0 : Hid (Ho w (w.alloc (.cells z47 47)) B gb w.heap.size n cap 0 m) := ⟨⟨xs, h.alloc _, fun t ht => by omega⟩, heap_alloc_new w _, Kp.alloc w _ _⟩
  clear h
  go_enter Try.func27, Try.ntmps27
  go_wp2_with fail
  go_loopw [5] (fun i wr => ∃ (j : Nat), j ≤ n ∧ i = .int .i64 (j : Int) ∧ Hid (Ho w wr B gb w.heap.size n cap j m)) (fun i _ => n - (intOf i).toNat)
  case atStart => exact ⟨0, by omega, rfl, H0⟩
  case round =>
    obtain ⟨j, hj, rfl, hI⟩ := hrel
    clear H0
    by_cases hlt : j < n
    · obtain ⟨⟨x, hx⟩, hf⟩ := hI.out.at hlt
      have hltI : (j : Int) < (n : Int) := by omega
      have hj0 : (0 : Int) ≤ (j : Int) := by omega
      have HN := hide (hI.out.set hlt)
      clear hI
      go_wp2
      exact ⟨⟨j + 1, by omega, by go_num, HN⟩, by simp [intOf]; omega⟩
    · obtain rfl : j = n := by omega
      have hge : ¬ (j : Int) < (j : Int) := by omega
      have hM := hI.out.done
      have HS0 : Hid (Hs w (wr.alloc (.cells #[.slice (some ⟨gb, 0, none⟩) j cap, .slice none 0 0, .slice none 0 0, .slice none 0 0, .slice none 0 0, .int .u8 m] 47)) B gb wr.heap.size w.heap.size m #[.slice (some ⟨gb, 0, none⟩) j cap, .slice none 0 0, .slice none 0 0, .slice none 0 0, .slice none 0 0, .int .u8 m] [(.slice (some ⟨gb, 0, none⟩) j cap, j)]) := by
        refine ⟨heap_alloc_new wr _, (Below.heap_alloc wr _ _ (blk_lt hI.out.res)).trans hI.out.res, hI.out.kp.andAlloc _, ?_, hI.out.kp.size, Nat.le_refl _, ?_, hB⟩
        · intro p hp
          simp only [List.mem_singleton] at hp
          subst hp
          exact ⟨hM.nu (Kp.alloc wr _ Nu), fun g hg => by left; cases hg; rfl⟩
        · have := blk_lt hI.out.res
          omega
      have HHI : Hid (w.heap.size < wr.heap.size) := blk_lt hI.out.res
      clear hI hM
      obtain ⟨b0, b1, b2, b3, b4, b5⟩ := cell6 HS0.out.box
      have hH : True := trivial
      go_wp2_with (first
        | (at_builtin
           refine wpList_append_row _ rfl (.tmp 21) (.tmp 23) 25 rfl B 5 i5 (.int .u8 0) 1 1 Try.underlying25 hi5 hz50 hz51 hz52 rfl (by decide) (.slice (some ⟨gb, 0, none⟩) j cap) j (List.replicate j (.int .u8 m)) rfl ?_ ⟨wr.heap.size + 1, 0, none⟩ 1 1 [.int .u8 m] rfl rfl ?_ ?_ ?_ ?_ ?_ ?_
           · exact (HS0.out.alloc (.cells #[.int .u8 m] 5)).rowM (by simp)
           · exact newAt _ _ _ _ (by simp)
           · simp [Value.oneCell']
           · unfold maxLen; omega
           · omega
           · have h1 := HS0.out.base; have h2 := (HS0.out.alloc (.cells #[.int .u8 m] 5)).ge; exact Nat.le_trans h1 h2
           intro v' w4 ho4 hg4 hat4 hr4
           have HS1a := hide ((HS0.out.alloc (.cells #[.int .u8 m] 5)).app (k := 1) (by simp) ho4 hg4 hat4 hr4)
           obtain ⟨ad1, cp1, ev1⟩ := own_slice ho4
           subst ev1
           obtain ⟨b0, b1, b2, b3, b4, b5⟩ := cell6 HS1a.out.box
           have hfr := free3 HS1a.out.box 1
           have HS1 : Hid (Hs w (w4.setCell ⟨wr.heap.size, 1, none⟩ (.slice ad1 (j + 1) cp1)) B gb wr.heap.size w.heap.size m #[.slice (some ⟨gb, 0, none⟩) j cap, .slice ad1 (j + 1) cp1, .slice none 0 0, .slice none 0 0, .slice none 0 0, .int .u8 m] [(.slice ad1 (j + 1) cp1, j + 1), (.slice (some ⟨gb, 0, none⟩) j cap, j)]) := HS1a.out.put 1 (.slice ad1 (j + 1) cp1)
           clear ho4 hg4 hat4 hr4 HS1a HS0 )
        | (at_builtin
           refine wpList_append_row _ rfl (.tmp 26) (.tmp 29) 25 rfl B 5 i5 (.int .u8 0) 1 1 Try.underlying25 hi5 hz50 hz51 hz52 rfl (by decide) (.slice (some ⟨gb, 0, none⟩) j cap) j (List.replicate j (.int .u8 m)) rfl ?_ ⟨w4.heap.size, 0, none⟩ 2 2 [.int .u8 m, .int .u8 m] rfl rfl ?_ ?_ ?_ ?_ ?_ ?_
           · exact (HS1.out.alloc (.cells #[.int .u8 m, .int .u8 m] 5)).rowM (by simp)
           · exact newAt _ _ _ _ (by simp)
           · simp [Value.oneCell']
           · unfold maxLen; omega
           · omega
           · have h1 := HS1.out.base; have h2 := (HS1.out.alloc (.cells #[.int .u8 m, .int .u8 m] 5)).ge; exact Nat.le_trans h1 h2
           intro v' w5 ho4 hg4 hat4 hr4
           have HS2a := hide ((HS1.out.alloc (.cells #[.int .u8 m, .int .u8 m] 5)).app (k := 2) (by simp) ho4 hg4 hat4 hr4)
           obtain ⟨ad2, cp2, ev2⟩ := own_slice ho4
           subst ev2
           obtain ⟨b0, b1, b2, b3, b4, b5⟩ := cell6 HS2a.out.box
           have hfr := free3 HS2a.out.box 2
           have HS2 : Hid (Hs w (w5.setCell ⟨wr.heap.size, 2, none⟩ (.slice ad2 (j + 2) cp2)) B gb wr.heap.size w.heap.size m #[.slice (some ⟨gb, 0, none⟩) j cap, .slice ad1 (j + 1) cp1, .slice ad2 (j + 2) cp2, .slice none 0 0, .slice none 0 0, .int .u8 m] [(.slice ad2 (j + 2) cp2, j + 2), (.slice ad1 (j + 1) cp1, j + 1), (.slice (some ⟨gb, 0, none⟩) j cap, j)]) := HS2a.out.put 2 (.slice ad2 (j + 2) cp2)
           clear ho4 hg4 hat4 hr4 HS2a HS1 )
        | (at_builtin
           refine wpList_append_row _ rfl (.tmp 32) (.tmp 36) 25 rfl B 5 i5 (.int .u8 0) 1 1 Try.underlying25 hi5 hz50 hz51 hz52 rfl (by decide) (.slice (some ⟨gb, 0, none⟩) j cap) j (List.replicate j (.int .u8 m)) rfl ?_ ⟨w5.heap.size, 0, none⟩ 3 3 [.int .u8 m, .int .u8 m, .int .u8 m] rfl rfl ?_ ?_ ?_ ?_ ?_ ?_
           · exact (HS2.out.alloc (.cells #[.int .u8 m, .int .u8 m, .int .u8 m] 5)).rowM (by simp)
           · exact newAt _ _ _ _ (by simp)
           · simp [Value.oneCell']
           · unfold maxLen; omega
           · omega
           · have h1 := HS2.out.base; have h2 := (HS2.out.alloc (.cells #[.int .u8 m, .int .u8 m, .int .u8 m] 5)).ge; exact Nat.le_trans h1 h2
           intro v' w6 ho4 hg4 hat4 hr4
           have HS3a := hide ((HS2.out.alloc (.cells #[.int .u8 m, .int .u8 m, .int .u8 m] 5)).app (k := 3) (by simp) ho4 hg4 hat4 hr4)
           obtain ⟨ad3, cp3, ev3⟩ := own_slice ho4
           subst ev3
           obtain ⟨b0, b1, b2, b3, b4, b5⟩ := cell6 HS3a.out.box
           have hfr := free3 HS3a.out.box 3
           have hfr2 := free3 HS3a.out.box 4
           have HS3 : Hid (Hs w (w6.setCell ⟨wr.heap.size, 3, none⟩ (.slice ad3 (j + 3) cp3)) B gb wr.heap.size w.heap.size m #[.slice (some ⟨gb, 0, none⟩) j cap, .slice ad1 (j + 1) cp1, .slice ad2 (j + 2) cp2, .slice ad3 (j + 3) cp3, .slice none 0 0, .int .u8 m] [(.slice ad3 (j + 3) cp3, j + 3), (.slice ad2 (j + 2) cp2, j + 2), (.slice ad1 (j + 1) cp1, j + 1), (.slice (some ⟨gb, 0, none⟩) j cap, j)]) := HS3a.out.put 3 (.slice ad3 (j + 3) cp3)
           clear ho4 hg4 hat4 hr4 HS3a HS2 )
        | go_in)
      have HS4 : Hid (Hs w ((w6.setCell ⟨wr.heap.size, 3, none⟩ (.slice ad3 (j + 3) cp3)).setCell ⟨wr.heap.size, 4, none⟩ (.slice (some ⟨gb, 0, none⟩) j cap)) B gb wr.heap.size w.heap.size m #[.slice (some ⟨gb, 0, none⟩) j cap, .slice ad1 (j + 1) cp1, .slice ad2 (j + 2) cp2, .slice ad3 (j + 3) cp3, .slice (some ⟨gb, 0, none⟩) j cap, .int .u8 m] [(.slice (some ⟨gb, 0, none⟩) j cap, j), (.slice ad3 (j + 3) cp3, j + 3), (.slice ad2 (j + 2) cp2, j + 2), (.slice ad1 (j + 1) cp1, j + 1), (.slice (some ⟨gb, 0, none⟩) j cap, j)]) := (HS3.out.put 4 _).sub (by simp)
      clear HS3 b0 b1 b2 b3 b4 b5 hfr hfr2
      obtain ⟨H, hH⟩ : ∃ H, wr.heap.size = H := ⟨_, rfl⟩
      rw [hH] at HS4 HHI ⊢
      go_loopw [7] (fun i wt => ∃ (k : Nat) (ad9 : Option Addr) (cp9 : Nat), k ≤ 80 ∧ i = .int .i64 (k : Int) ∧ Hid (Hs w wt B gb H w.heap.size m #[.slice (some ⟨gb, 0, none⟩) j cap, .slice ad1 (j + 1) cp1, .slice ad2 (j + 2) cp2, .slice ad3 (j + 3) cp3, .slice ad9 (j + k) cp9, .int .u8 m] [(.slice ad9 (j + k) cp9, j + k), (.slice ad3 (j + 3) cp3, j + 3), (.slice ad2 (j + 2) cp2, j + 2), (.slice ad1 (j + 1) cp1, j + 1), (.slice (some ⟨gb, 0, none⟩) j cap, j)])) (fun i _ => 80 - (intOf i).toNat)
      case atStart => exact ⟨0, _, _, by omega, rfl, HS4⟩
      case round =>
        obtain ⟨k, ad9, cp9, hk, rfl, hI⟩ := hrel
        clear HS4
        by_cases hlt : k < 80
        · have hltI : (k : Int) < 80 := by omega
          obtain ⟨b0, b1, b2, b3, b4, b5⟩ := cell6 hI.out.box
          clear b0 b1 b2 b3 b5
          go_wp2_with (first
            | (at_builtin
               refine wpList_append_row _ rfl (.tmp 46) (.tmp 48) 25 rfl B 5 i5 (.int .u8 0) 1 1 Try.underlying25 hi5 hz50 hz51 hz52 rfl (by decide) (.slice ad9 (j + k) cp9) (j + k) (List.replicate (j + k) (.int .u8 m)) rfl ?_ ⟨wr.heap.size, 0, none⟩ 1 1 [.int .u8 m] rfl rfl ?_ ?_ ?_ ?_ ?_ ?_
               · exact (hI.out.alloc (.cells #[.int .u8 m] 5)).rowM (by simp)
               · exact newAt _ _ _ _ (by simp)
               · simp [Value.oneCell']
               · unfold maxLen; omega
               · omega
               · have h1 := hI.out.base; have h2 := (hI.out.alloc (.cells #[.int .u8 m] 5)).ge; exact Nat.le_trans h1 h2
               intro v' w7 ho4 hg4 hat4 hr4
               have HS5a := hide ((hI.out.alloc (.cells #[.int .u8 m] 5)).app (k := 1) (by simp) ho4 hg4 hat4 hr4)
               obtain ⟨ad10, cp10, ev10⟩ := own_slice ho4
               subst ev10
               obtain ⟨b0, b1, b2, b3, b4, b5⟩ := cell6 HS5a.out.box
               have hfr := free3 HS5a.out.box 4
               have HS5 : Hid (Hs w (w7.setCell ⟨H, 4, none⟩ (.slice ad10 (j + k + 1) cp10)) B gb H w.heap.size m #[.slice (some ⟨gb, 0, none⟩) j cap, .slice ad1 (j + 1) cp1, .slice ad2 (j + 2) cp2, .slice ad3 (j + 3) cp3, .slice ad10 (j + k + 1) cp10, .int .u8 m] [(.slice ad10 (j + k + 1) cp10, j + k + 1), (.slice ad3 (j + 3) cp3, j + 3), (.slice ad2 (j + 2) cp2, j + 2), (.slice ad1 (j + 1) cp1, j + 1), (.slice (some ⟨gb, 0, none⟩) j cap, j)]) := (HS5a.out.put 4 (.slice ad10 (j + k + 1) cp10)).sub (by simp)
               clear ho4 hg4 hat4 hr4 HS5a hI)
            | go_in)
          exact ⟨⟨k + 1, ad10, cp10, by omega, by go_num, HS5⟩, by simp [intOf]; omega⟩
        · obtain rfl : k = 80 := by omega
          have hge : ¬ ((80 : Nat) : Int) < 80 := by omega
          obtain ⟨b0, b1, b2, b3, b4, b5⟩ := cell6 hI.out.box
          obtain ⟨r0, r1, r2, r3, r4, r5⟩ := cell6 hI.out.res
          have hfr := fun o => free3 hI.out.res o
          go_wp2
          obtain ⟨W, hW, hWR, hWK, hWP⟩ := hI.out.out6 (.slice (some ⟨gb, 0, none⟩) j cap) (.slice ad1 (j + 1) cp1) (.slice ad2 (j + 2) cp2) (.slice ad3 (j + 3) cp3) (.slice ad9 (j + 80) cp9) (.int .u8 m)
          have hrow := hI.out.row
          rw [← hW]
          clear b0 b1 b2 b3 b4 b5 r0 r1 r2 r3 r4 r5 hfr hI
          refine bodyPost_ret (results_cell_row rfl _ W w.heap.size 47 _ _ _ rfl hWR Try.underlying47 rfl info47s) rfl ?_
          have q0 : (Value.slice (some ⟨gb, 0, none⟩) j cap, j) ∈ [(Value.slice ad9 (j + 80) cp9, j + 80), (Value.slice ad3 (j + 3) cp3, j + 3), (Value.slice ad2 (j + 2) cp2, j + 2), (Value.slice ad1 (j + 1) cp1, j + 1), (Value.slice (some ⟨gb, 0, none⟩) j cap, j)] := by simp
          have q1 : (Value.slice ad1 (j + 1) cp1, j + 1) ∈ [(Value.slice ad9 (j + 80) cp9, j + 80), (Value.slice ad3 (j + 3) cp3, j + 3), (Value.slice ad2 (j + 2) cp2, j + 2), (Value.slice ad1 (j + 1) cp1, j + 1), (Value.slice (some ⟨gb, 0, none⟩) j cap, j)] := by simp
          have q2 : (Value.slice ad2 (j + 2) cp2, j + 2) ∈ [(Value.slice ad9 (j + 80) cp9, j + 80), (Value.slice ad3 (j + 3) cp3, j + 3), (Value.slice ad2 (j + 2) cp2, j + 2), (Value.slice ad1 (j + 1) cp1, j + 1), (Value.slice (some ⟨gb, 0, none⟩) j cap, j)] := by simp
          have q3 : (Value.slice ad3 (j + 3) cp3, j + 3) ∈ [(Value.slice ad9 (j + 80) cp9, j + 80), (Value.slice ad3 (j + 3) cp3, j + 3), (Value.slice ad2 (j + 2) cp2, j + 2), (Value.slice ad1 (j + 1) cp1, j + 1), (Value.slice (some ⟨gb, 0, none⟩) j cap, j)] := by simp
          have q9 : (Value.slice ad9 (j + 80) cp9, j + 80) ∈ [(Value.slice ad9 (j + 80) cp9, j + 80), (Value.slice ad3 (j + 3) cp3, j + 3), (Value.slice ad2 (j + 2) cp2, j + 2), (Value.slice ad1 (j + 1) cp1, j + 1), (Value.slice (some ⟨gb, 0, none⟩) j cap, j)] := by simp
          refine ⟨_, _, _, _, rfl, ⟨hWP _ q0, hWP _ q1, hWP _ q2, hWP _ q3, hWP _ q9, hn0, hn1⟩, hWK, ?_⟩
          first
            | exact ⟨(hrow _ q1).2, (hrow _ q2).2, (hrow _ q3).2, (hrow _ q9).2⟩
            | (intro x hx
               simp only [List.mem_cons, List.not_mem_nil, or_false] at hx
               rcases hx with rfl | rfl | rfl | rfl
               · exact (hrow _ q1).2
               · exact (hrow _ q2).2
               · exact (hrow _ q3).2
               · exact (hrow _ q9).2)
end Go.Proofs.Ythajboipnjjgfaa.Ly
