import Derived.Test.YtfpaagdiogdnoaaAcC
namespace Go.Proofs.Ytfpaagdiogdnoaa.Cd
open Go.RowKit
set_option linter.unusedVariables false
/-- a pair -/
structure Pq where
  k : Int
  a : Option Addr
  c : Nat
  xs : List Int
def Pq.cells (p : Pq) : List Value := [.int .u64 p.k, .slice p.a p.xs.length p.c]
def flat (L : List Pq) : List Value := L.flatMap Pq.cells
theorem flat_snoc (D : List Pq) (d : Pq) : flat (D ++ [d]) = flat D ++ d.cells := by simp [flat]
/-- what it says may be -/
structure Pq.Fine (p : Pq) : Prop where
  lo : 0 ≤ p.k
  hi : p.k < 18446744073709551616
  byt : Byt p.xs
  len : p.xs.length ≤ 1048576
structure Pq.Ok (w : World) (p : Pq) : Prop where
  rd : Rd w (.slice p.a p.xs.length p.c) p.xs
  fine : p.Fine
theorem Pq.Ok.nu {w w' : World} {p : Pq} (h : p.Ok w) (k : Kp Nu w w') : p.Ok w' := ⟨h.rd.nu k, h.fine⟩
/-- pairs in memory -/
def Prs (w : World) (u : Value) (L : List Pq) : Prop :=
  ∃ a cap, u = .slice a L.length cap ∧ ∀ (i : Nat) p, L[i]? = some p → ∃ b o, a = some ⟨b, o, none⟩ ∧ w.cell? ⟨b, o + i * 2, none⟩ = some (.int .u64 p.k) ∧ w.cell? ⟨b, o + i * 2 + 1, none⟩ = some (.slice p.a p.xs.length p.c) ∧ p.Ok w
theorem cell_nu {w w' : World} {a : Addr} {v : Value} (h : w.cell? a = some v) (k : Kp Nu w w') : w'.cell? a = some v := (World.cell?_of_block (k.block _ (World.block_lt_of_cell? w _ h) (fun h => h))).trans h
theorem Prs.nu {w w' : World} {u : Value} {L : List Pq} (h : Prs w u L) (k : Kp Nu w w') : Prs w' u L := by
  obtain ⟨a, cap, h0, h1⟩ := h
  refine ⟨a, cap, h0, fun i p hp => ?_⟩
  obtain ⟨b, o, h2, h3, h4, h5⟩ := h1 i p hp
  exact ⟨b, o, h2, cell_nu h3 k, cell_nu h4 k, h5.nu k⟩
theorem Prs.at_ {w : World} {a : Option Addr} {n cap : Nat} {L : List Pq} (h : Prs w (.slice a n cap) L) {i : Nat} {p : Pq} (hp : L[i]? = some p) : ∃ b o, a = some ⟨b, o, none⟩ ∧ w.cell? ⟨b, o + i * 2, none⟩ = some (.int .u64 p.k) ∧ w.cell? ⟨b, o + i * 2 + 1, none⟩ = some (.slice p.a p.xs.length p.c) ∧ p.Ok w := by
  obtain ⟨a', cap', h0, h1⟩ := h
  simp only [Value.slice.injEq] at h0
  obtain ⟨rfl, _, _⟩ := h0
  exact h1 i p hp
/-- blocks of bytes stand -/
def K5 (w w' : World) : Prop := ∀ (g : Nat) (cur : Array Value), w.heap[g]? = some (Obj.cells cur 5 (0, 0)) → w'.heap[g]? = some (Obj.cells cur 5 (0, 0))
theorem K5.trans {a b c : World} (h : K5 a b) (k : K5 b c) : K5 a c := fun g cur hg => k g cur (h g cur hg)
theorem blk_lt {w : World} {b : Nat} {o : Obj} (h : w.heap[b]? = some o) : b < w.heap.size := by
  rcases Nat.lt_or_ge b w.heap.size with hlt | hge
  · exact hlt
  · rw [Array.getElem?_eq_none hge] at h; cases h
theorem K5.nu {w w' : World} (k : Kp Nu w w') : K5 w w' := fun g cur hg => (k.block g (blk_lt hg) (fun h => h)).trans hg
theorem own_obj {w : World} {B e size n : Nat} {v : Value} {xs : List Value} (h : w.ownsRow B e size v n xs) {g : Nat} (hg : v.ownBlock = some g) : ∃ cur, w.heap[g]? = some (.cells cur e (0, 0)) := by
  rcases h.2 with ⟨rfl, h0⟩ | ⟨g', cap, cur, rfl, hb', hg', _⟩
  · cases hg
  · simp [Value.ownBlock] at hg; subst hg; exact ⟨cur, hg'⟩
theorem K5.grown {w w' : World} {v : Value} {B n : Nat} {xs : List Value} (ho : w.ownsRow B 31 2 v n xs) (h : w.grownBy w' v.ownBlock) : K5 w w' := fun g cur hg => by
  refine (h.block g (blk_lt hg) (fun e => ?_)).trans hg
  obtain ⟨c, hc⟩ := own_obj ho e.symm
  rw [hc] at hg
  simp at hg
theorem own_keep {w w' : World} {B e size n : Nat} {v : Value} {xs : List Value} (h : w.ownsRow B e size v n xs) (hk : ∀ g, v.ownBlock = some g → w'.heap[g]? = w.heap[g]?) : w'.ownsRow B e size v n xs := by
  refine ⟨h.1, ?_⟩
  rcases h.2 with ⟨rfl, h0⟩ | ⟨g, cap, cur, rfl, hb', hg, h1, h2, h3, h4⟩
  · exact .inl ⟨rfl, h0⟩
  · exact .inr ⟨g, cap, cur, rfl, hb', (hk g rfl).trans hg, h1, h2, h3, h4⟩
theorem own5 {w w' : World} {B n : Nat} {v : Value} {xs : List Value} (h : w.ownsRow B 5 1 v n xs) (k : K5 w w') : w'.ownsRow B 5 1 v n xs :=
  own_keep h (fun g hg => by obtain ⟨cur, hc⟩ := own_obj h hg; rw [k g cur hc, hc])
theorem own_base {w : World} {base base' e size n : Nat} {v : Value} {l : List Value} (h : w.ownsRow base e size v n l) (hb : base' ≤ base) : w.ownsRow base' e size v n l := by
  refine ⟨h.1, ?_⟩
  rcases h.2 with h | ⟨g, cap, cur, h1, h2, h3⟩
  · exact .inl h
  · exact .inr ⟨g, cap, cur, h1, Nat.le_trans hb h2, h3⟩
/-- a row of bytes of one's own, wherever it begins -/
theorem own_zero {w : World} {B n : Nat} {v : Value} {xs : List Int} (h : w.ownsRow B 5 1 v n (cs xs)) (hn : n = xs.length) : Rd w v xs := Rd.of_own (own_base h (Nat.zero_le _)) hn
/-- pairs of one's own -/
structure Pow (w : World) (B : Nat) (v : Value) (D : List Pq) : Prop where
  row : w.ownsRow B 31 2 v D.length (flat D)
  each : ∀ d ∈ D, w.ownsRow B 5 1 (.slice d.a d.xs.length d.c) d.xs.length (cs d.xs) ∧ d.Fine
theorem flat_at : ∀ (l : List Pq) (k : Nat) (x : Pq), l[k]? = some x → ∀ j, j < 2 → (flat l)[k * 2 + j]? = x.cells[j]?
  | [], k, x, h, j, _ => by simp at h
  | a :: l, 0, x, h, j, hj => by
    simp at h; subst h
    simp only [flat, List.flatMap_cons, Nat.zero_mul, Nat.zero_add]
    rw [List.getElem?_append_left (by simp [Pq.cells]; omega)]
  | a :: l, k + 1, x, h, j, hj => by
    have ih := flat_at l k x (by simpa using h) j hj
    simp only [flat, List.flatMap_cons]
    rw [List.getElem?_append_right (by simp [Pq.cells]; omega)]
    have : (k + 1) * 2 + j - a.cells.length = k * 2 + j := by simp [Pq.cells]; omega
    rw [this]; exact ih
theorem Pow.prs {w : World} {B : Nat} {v : Value} {D : List Pq} (h : Pow w B v D) : Prs w v D := by
  rcases h.row.2 with ⟨rfl, h0⟩ | ⟨g, cap, cur, rfl, hb', hg, h1, h2, h3, h4⟩
  · obtain rfl : D = [] := List.eq_nil_of_length_eq_zero h0
    exact ⟨none, 0, rfl, fun i p hp => by simp at hp⟩
  · refine ⟨_, cap, rfl, fun i p hp => ⟨g, 0, rfl, ?_, ?_, ?_⟩⟩
    · have hlt := (List.getElem?_eq_some_iff.1 hp).1
      have e1 := flat_at D i p hp 0 (by omega)
      rw [← h4, List.getElem?_take_of_lt (by omega)] at e1
      have e2 : cur[i * 2]? = some (.int .u64 p.k) := by simpa [Pq.cells] using e1
      simpa [World.cell?, hg] using e2
    · have hlt := (List.getElem?_eq_some_iff.1 hp).1
      have e1 := flat_at D i p hp 1 (by omega)
      rw [← h4, List.getElem?_take_of_lt (by omega)] at e1
      have e2 : cur[i * 2 + 1]? = some (.slice p.a p.xs.length p.c) := by simpa [Pq.cells] using e1
      simpa [World.cell?, hg] using e2
    · obtain ⟨q1, q2⟩ := h.each p (List.mem_of_getElem? hp)
      exact ⟨own_zero q1 rfl, q2⟩
theorem info31 : (Try.prog.info? 31).map (fun i => (i.zero, i.size, i.bytes)) = some (some (.agg #[.int .u64 0, .slice none 0 0]), 2, 32) := by kernel_rfl
/-- the same pair, its bytes elsewhere -/
def Pq.at_ (p : Pq) (a : Option Addr) (c : Nat) : Pq := ⟨p.k, a, c, p.xs⟩
/-- two lists say the same -/
def Alk (L D : List Pq) : Prop := L.map (fun p => (p.k, p.xs)) = D.map (fun p => (p.k, p.xs))
structure TwI (w wr : World) (L : List Pq) (i : Nat) (lv : Value) (D : List Pq) : Prop where
  len : D.length = i
  same : Alk (L.take i) D
  cow : Pow wr w.heap.size lv D
  kp : Kp Nu w wr
theorem cell_two_new (w : World) (x y : Value) (t : TypeId) : ∀ j u, [x, y][j]? = some u → (w.alloc (.cells #[x, y] t)).cell? ((⟨w.heap.size, 0, none⟩ : Addr).add j) = some u := by
  intro j u hj
  have hb := heap_alloc_new w (.cells #[x, y] t)
  match j, hj with
  | 0, hj => simp at hj; subst hj; rw [Addr.add_lit, Nat.zero_add]; exact (cell2 hb).1
  | 1, hj => simp at hj; subst hj; rw [Addr.add_lit, Nat.zero_add]; exact (cell2 hb).2
  | j + 2, hj => simp at hj
theorem Kp.andAlloc {S : Nat → Prop} {w w1 : World} (h : Kp S w w1) (o : Obj) : Kp S w (w1.alloc o) := h.trans (Kp.alloc w1 o Nu) (fun _ _ h => h.elim)
set_option maxRecDepth 100000 in
set_option maxHeartbeats 4000000 in
/-- the law's copy of pairs -/
theorem pairs4 (w : World) (u : Value) (L : List Pq) (hL : Prs w u L) (hN : L.length ≤ 1048576) :
    Calls Try.prog 4 #[u] w fun e w' => ∃ v, e = .returned v ∧ ∃ D, Alk L D ∧ Pow w' w.heap.size v D ∧ Kp Nu w w' := by
  obtain ⟨i0, hi0, hz0, hz1, hz2⟩ := info_parts info31
  obtain ⟨ua, uc, hu, _⟩ := id hL
  obtain ⟨N, eN⟩ : ∃ N, L.length = N := ⟨_, rfl⟩
  rw [eN] at hu hN
  subst hu
  have HL := hide (And.intro hL eN)
  have hNI : (N : Int) ≤ 1048576 := by omega
  clear hL eN
  go_enter Try.func4, Try.ntmps4
  go_wp2
  go_loopw [3, 4] (fun lv iv wr => ∃ (i : Nat) (D : List Pq) (ad : Option Addr) (cp : Nat), iv = .int .i64 (i : Int) ∧ lv = .slice ad i cp ∧ i ≤ N ∧ Hid (TwI w wr L i (.slice ad i cp) D)) (fun _ iv _ => N - (intOf iv).toNat)
  case atStart => exact ⟨0, [], none, 0, rfl, rfl, Nat.zero_le _, hide ⟨rfl, rfl, ⟨World.ownsRow_nil _ _ _ _, fun d hd => by cases hd⟩, Kp.refl _ _⟩⟩
  case round =>
    obtain ⟨i, D, ad, cp, rfl, rfl, hi, hI⟩ := hrel
    have hii : (0 : Int) ≤ (i : Int) := by omega
    by_cases hlt : i < N
    · have hltI : (i : Int) < (N : Int) := by omega
      obtain ⟨p, hp⟩ : ∃ p, L[i]? = some p := ⟨_, List.getElem?_eq_getElem (by rw [HL.out.2]; exact hlt)⟩
      obtain ⟨b, o, rfl, x0, x1, hok⟩ := (HL.out.1.nu hI.out.kp).at_ hp
      have BY := bytes8 wr _ p.xs hok.rd hok.fine.len
      have eti : (i : Int).toNat = i := by omega
      have HP := hide (And.intro hp hok)
      clear hp hok
      go_wp2_with fail
      refine BY.mono ?_; rintro e w1 ⟨d1, rfl, ho1, hk1⟩
      obtain ⟨a1, n1, rfl⟩ := own_slice ho1
      have y0 := cell_nu x0 hk1
      have H1 := hide (And.intro ho1 hk1)
      have HD : Hid (w1.ownsRow w.heap.size 31 2 (.slice ad i cp) i (flat D)) := by
        have h := hI.out.cow.row
        rw [hI.out.len] at h
        exact own_keep h (fun g hg => hk1.block g (h.lt g hg).2 (fun h => h))
      have hsz : w.heap.size ≤ w1.heap.size := Nat.le_trans hI.out.kp.size hk1.size
      clear BY ho1 hk1 x0 x1
      generalize hlx : p.xs.length = lx at H1 ⊢
      have HLX := hide hlx
      clear hlx
      go_wp2_with (at_builtin; refine wpList_append_own_at _ rfl _ _ 22 rfl w.heap.size 31 i0 _ 2 32 Try.underlying22 hi0 hz0 hz1 hz2 rfl (by decide) (.slice ad i cp) i (flat D) rfl (HD.out.alloc _) ⟨w1.heap.size, 0, none⟩ 1 1 [.int .u64 p.k, .slice a1 lx n1] rfl rfl (cell_two_new _ _ _ _) (by simp [Value.oneCell']) ?q1 ?q2 ?q3 ?_; rotate_left 3; intro v' w7 ho hg hnil hat; obtain ⟨ad7, cp7, ev⟩ := own_slice ho; subst ev)
      · have HO : Hid (TwI w w7 L (i + 1) (.slice ad7 (i + 1) cp7) (D ++ [p.at_ a1 n1])) := by
          have hD6 := HD.out.alloc (.cells #[.int .u64 p.k, .slice a1 lx n1] 31)
          have q67 : K5 w1 w7 := (K5.nu (Kp.alloc w1 _ Nu)).trans (K5.grown hD6 hg)
          have hlen := hI.out.len
          refine ⟨by rw [List.length_append, hlen]; rfl, ?_, ⟨?_, fun d hd => ?_⟩, ?_⟩
          · have := hI.out.same
            unfold Alk at this ⊢
            rw [take_more HP.out.1, List.map_append, List.map_append, this]
            rfl
          · rw [flat_snoc]
            have e : (D ++ [p.at_ a1 n1]).length = i + 1 := by rw [List.length_append, hlen]; rfl
            rw [e]
            have e2 : (p.at_ a1 n1).cells = [.int .u64 p.k, .slice a1 lx n1] := by rw [← HLX.out]; rfl
            rw [e2]
            exact ho
          · rcases List.mem_append.1 hd with hd | hd
            · exact ⟨own5 (hI.out.cow.each d hd).1 ((K5.nu H1.out.2).trans q67), (hI.out.cow.each d hd).2⟩
            · simp only [List.mem_singleton] at hd
              subst hd
              refine ⟨?_, HP.out.2.fine.lo, HP.out.2.fine.hi, HP.out.2.fine.byt, HP.out.2.fine.len⟩
              have h1 := own_base (own5 H1.out.1 q67) hI.out.kp.size
              rw [← HLX.out] at h1
              exact h1
          · refine ((hI.out.kp.andNu H1.out.2).andAlloc _).trans (Kp.of_grown hg) (fun g hg' e => ?_)
            have := (HD.out.lt g e.symm).1
            omega
        clear ho hg hnil hat HD hI HP H1
        exact ⟨⟨i + 1, _, _, _, by go_num, rfl, by omega, HO⟩, by simp [intOf]; omega⟩
      · unfold maxLen; omega
      · omega
      · rw [World.size_alloc]; omega
    · have hge : ¬ (i : Int) < (N : Int) := by omega
      obtain rfl : i = N := by omega
      go_wp2
      go_ret
      have q := hI.out.same
      rw [List.take_of_length_le (by have := HL.out.2; omega)] at q
      exact ⟨_, rfl, D, q, hI.out.cow, hI.out.kp⟩
end Go.Proofs.Ytfpaagdiogdnoaa.Cd
