import Derived.Test.YtbifmcadllilhaaQtE
import Derived.Test.YtbifmcadllilhaaQtI
import Derived.Laws.CopyOwn
namespace Go.Proofs.Ytbifmcadllilhaa.Rg
open Go.RowKit Go.Shelf Go.Sort
set_option linter.unusedVariables false
/-- node m has height d in a tree of height D -/
def Nd (D d m : Nat) : Prop := ∃ e, e + d = D ∧ 2 ^ e ≤ m ∧ m < 2 ^ (e + 1)
theorem Nd.lo {D d m : Nat} (h : Nd D d m) : 2 ^ D ≤ m * 2 ^ d := by
  obtain ⟨e, rfl, h1, _⟩ := h
  rw [Nat.pow_add]
  exact Nat.mul_le_mul_right _ h1
theorem Nd.hi {D d m : Nat} (h : Nd D d m) : (m + 1) * 2 ^ d ≤ 2 * 2 ^ D := by
  obtain ⟨e, rfl, _, h2⟩ := h
  have : (m + 1) * 2 ^ d ≤ 2 ^ (e + 1) * 2 ^ d := Nat.mul_le_mul_right _ h2
  rw [Nat.pow_succ, Nat.mul_comm (2 ^ e) 2, Nat.mul_assoc, ← Nat.pow_add] at this
  exact this
theorem Nd.left {D d m : Nat} (h : Nd D (d + 1) m) : Nd D d (2 * m) := by
  obtain ⟨e, h0, h1, h2⟩ := h
  have e2 : 2 ^ (e + 1) = 2 * 2 ^ e := by rw [Nat.pow_succ]; omega
  have e3 : 2 ^ (e + 1 + 1) = 2 * 2 ^ (e + 1) := by rw [Nat.pow_succ 2 (e + 1)]; omega
  exact ⟨e + 1, by omega, by omega, by omega⟩
theorem Nd.right {D d m : Nat} (h : Nd D (d + 1) m) : Nd D d (2 * m + 1) := by
  obtain ⟨e, h0, h1, h2⟩ := h
  have e2 : 2 ^ (e + 1) = 2 * 2 ^ e := by rw [Nat.pow_succ]; omega
  have e3 : 2 ^ (e + 1 + 1) = 2 * 2 ^ (e + 1) := by rw [Nat.pow_succ 2 (e + 1)]; omega
  exact ⟨e + 1, by omega, by omega, by omega⟩
theorem Nd.up {D d m i : Nat} (h : Nd D d m) (hi : m / 2 = i) (h0 : 0 < i) : Nd D (d + 1) i := by
  obtain ⟨e, h0, h1, h2⟩ := h
  cases e with
  | zero => simp at h1 h2; omega
  | succ e =>
    have e2 : 2 ^ (e + 1) = 2 * 2 ^ e := by rw [Nat.pow_succ]; omega
    have e3 : 2 ^ (e + 1 + 1) = 2 * 2 ^ (e + 1) := by rw [Nat.pow_succ 2 (e + 1)]; omega
    exact ⟨e, by omega, by omega, by omega⟩
theorem pow_lt_of {a b : Nat} (h : 2 ^ a < 2 ^ b) : a < b := by
  rcases Nat.lt_or_ge a b with c | c
  · exact c
  · have := Nat.pow_le_pow_right (n := 2) (by omega) c; omega
theorem Nd.leaf {D d m : Nat} (h : Nd D d m) (hm : 2 ^ D ≤ m) : d = 0 := by
  obtain ⟨e, h0, h1, h2⟩ := h
  have := pow_lt_of (a := D) (b := e + 1) (by omega)
  omega
theorem Nd.inner {D d m : Nat} (h : Nd D d m) (hm : m < 2 ^ D) : ∃ d', d = d' + 1 := by
  obtain ⟨e, h0, h1, h2⟩ := h
  have := pow_lt_of (a := e) (b := D) (by omega)
  exact ⟨d - 1, by omega⟩
theorem nd_leaf {D m : Nat} (h1 : 2 ^ D ≤ m) (h2 : m < 2 * 2 ^ D) : Nd D 0 m := ⟨D, rfl, h1, by rw [Nat.pow_succ]; omega⟩
theorem nd_root (D : Nat) : Nd D D 1 := ⟨0, by omega, by simp, by simp⟩
/-- the nodes above i say what the leaves below them say -/
def Gth (D : Nat) (t : List Int) (i : Nat) : Prop := ∀ d m, i < m → Nd D d m → Mxd t d m ∧ ∀ q, q < 2 ^ d → who t d m q = gt t (m * 2 ^ d + q)
theorem Gth.start {D : Nat} {t : List Int} (h : ∀ k, 2 ^ D ≤ k → gt t k ≠ 255) : Gth D t (2 ^ D - 1) := fun d m hm hn => by
  have hp := Nat.two_pow_pos D
  obtain rfl := hn.leaf (by omega)
  refine ⟨h m (by omega), fun q hq => ?_⟩
  simp at hq
  subst hq
  simp [who]
theorem Gth.step {D : Nat} {t t' : List Int} {i : Nat} (h : Gth D t i) (h0 : 0 < i) (hi : i < 2 ^ D) (hs : ∀ k, k ≠ i → gt t' k = gt t k) (hv : gt t' i = gv t i) : Gth D t' (i - 1) := fun d m hm hn => by
  have leaf : ∀ q, gt t' (m * 2 ^ d + q) = gt t (m * 2 ^ d + q) := fun q => hs _ (by have := hn.lo; omega)
  by_cases c : m = i
  · subst c
    obtain ⟨e, rfl⟩ := hn.inner hi
    have e2 : 2 ^ (e + 1) = 2 ^ e + 2 ^ e := by rw [Nat.pow_succ]; omega
    obtain ⟨l1, l2⟩ := h e (2 * m) (by omega) hn.left
    obtain ⟨r1, r2⟩ := h e (2 * m + 1) (by omega) hn.right
    refine ⟨mxd_gather h0 hs hv l1 r1, fun q hq => ?_⟩
    rw [leaf, who_gather h0 hs hv]
    have e3 : m * 2 ^ (e + 1) = 2 * m * 2 ^ e := by rw [e2, ← Nat.two_mul, ← Nat.mul_assoc, Nat.mul_comm m 2]
    by_cases c : q < 2 ^ e
    · rw [if_pos c, l2 q c, e3]
    · rw [if_neg c, r2 _ (by omega), e3, Nat.add_mul, Nat.one_mul]
      congr 1
      omega
  · obtain ⟨q1, q2⟩ := h d m (by omega) hn
    have same : ∀ k, Below_ d m k → gt t' k = gt t k := fun k hk => hs k (by have := below_gt hk (n := i) (by omega); omega)
    exact ⟨mxd_same same q1, fun q hq => by rw [leaf, who_same same, q2 q hq]⟩
/-- the nodes from i on, whose parents have handed down, say whose the parts are -/
def Lst (D : Nat) (t : List Int) (o : Nat → Int) (i : Nat) : Prop := ∀ d m, i ≤ m → m / 2 < i → Nd D d m → ∀ q, q < 2 ^ d → who t d m q = o (m * 2 ^ d - 2 ^ D + q)
theorem Lst.start {D : Nat} {t : List Int} {o : Nat → Int} (h : ∀ q, q < 2 ^ D → who t D 1 q = o q) : Lst D t o 1 := fun d m h1 h2 hn q hq => by
  obtain rfl : m = 1 := by omega
  obtain ⟨e, e0, e1, e2⟩ := hn
  have : e = 0 := by
    cases e with
    | zero => rfl
    | succ e => have := Nat.two_pow_pos e; rw [Nat.pow_succ] at e1; omega
  subst this
  obtain rfl : d = D := by omega
  rw [h q hq, Nat.one_mul, Nat.sub_self, Nat.zero_add]
theorem Lst.step {D : Nat} {t t' : List Int} {o : Nat → Int} {i : Nat} (h : Lst D t o i) (h0 : 0 < i) (hi : i < 2 ^ D) (hd : Hd t t' i) : Lst D t' o (i + 1) := fun d m h1 h2 hn q hq => by
  by_cases c : m / 2 = i
  · have hu := hn.up c h0
    have hw := h (d + 1) i (by omega) (by omega) hu
    have e2 : 2 ^ (d + 1) = 2 ^ d + 2 ^ d := by rw [Nat.pow_succ]; omega
    have e3 : i * 2 ^ (d + 1) = 2 * i * 2 ^ d := by rw [e2, ← Nat.two_mul, ← Nat.mul_assoc, Nat.mul_comm i 2]
    have lo := hu.lo
    by_cases c2 : m = 2 * i
    · subst c2
      have := hw q (by omega)
      rw [who_hand h0 hd.far hd.mix hd.one, if_pos hq] at this
      rw [this, e3]
    · obtain rfl : m = 2 * i + 1 := by omega
      have := hw (q + 2 ^ d) (by omega)
      rw [who_hand h0 hd.far hd.mix hd.one, if_neg (by omega), Nat.add_sub_cancel] at this
      rw [this, e3]
      rw [e3] at lo
      congr 1
      rw [Nat.add_mul, Nat.one_mul]
      omega
  · have same : ∀ k, Below_ d m k → gt t' k = gt t k := fun k hk => by
      obtain ⟨e, e1, e2, e3⟩ := hk
      refine hd.far k (fun x => ?_) (fun x => ?_)
      all_goals
        cases e with
        | zero => simp at e2 e3; omega
        | succ e =>
          have p := Nat.two_pow_pos e
          have : m * 2 ≤ m * 2 ^ (e + 1) := Nat.mul_le_mul_left _ (by rw [Nat.pow_succ]; omega)
          omega
    rw [who_same same]
    exact h d m (by omega) (by omega) hn q hq
theorem Lst.done {D : Nat} {t : List Int} {o : Nat → Int} (h : Lst D t o (2 ^ D)) {q : Nat} (hq : q < 2 ^ D) : gt t (2 ^ D + q) = o q := by
  have := h 0 (2 ^ D + q) (by omega) (by omega) (nd_leaf (by omega) (by omega)) 0 (by simp)
  simp only [who, Nat.pow_zero, Nat.mul_one, Nat.add_zero] at this
  rw [this]
  congr 1
  omega
end Go.Proofs.Ytbifmcadllilhaa.Rg
namespace Go.Proofs.Ytbifmcadllilhaa.Rg
open Go.RowKit Go.Shelf Go.Sort
set_option linter.unusedVariables false
set_option maxRecDepth 100000 in
set_option maxHeartbeats 4000000 in
theorem list65 (w : World) (B pb g c D P : Nat) (o : Nat → Int) (t : List Int) (h : OwT w B pb g c D o t) (hD : 2 * 2 ^ D ≤ 1000000) (hP0 : 0 < P) (hP : P ≤ 2 ^ D) :
    Calls Try.prog 65 #[.pointer (some ⟨pb, 0, none⟩), .int .i64 (P : Int)] w fun e w' => e = .returned (.slice (some ⟨g, 2 ^ D, none⟩) P (c - 2 ^ D)) ∧ ∃ t', Tr w' B pb g (2 * 2 ^ D) c (2 ^ D) t' ∧ (∀ q, q < P → gt t' (2 ^ D + q) = o q) ∧ Kp (fun k => k = g) w w' := by
  have mixed : Try.prog.follows .mixedOrders = true := by kernel_rfl
  have hp := Nat.two_pow_pos D
  have hcn : 2 * 2 ^ D ≤ c := by
    rcases h.tr.own.2 with ⟨e0, _⟩ | ⟨g', cap', cur, e0, _, _, h1, _⟩
    · cases e0
    · cases e0; exact h1
  obtain ⟨wd, hwd⟩ : ∃ wd, wd = 2 ^ D := ⟨_, rfl⟩
  obtain ⟨n, hn⟩ : ∃ n, n = 2 * wd := ⟨_, rfl⟩
  have hT := h.tr
  have HL := hide (Lst.start h.who)
  rw [← hwd, ← hn] at hT
  rw [← hwd] at hcn hP hD hp ⊢
  rw [← hn] at hcn hD ⊢
  have HD := hide hwd
  have HT := hide hT
  clear hT h hwd
  have hw0 : (1 : Int) ≤ (wd : Int) := by omega
  have hw1 : (wd : Int) ≤ 1000000 := by omega
  have HN := hide hn
  have hN1 : n ≤ 1000000 := hD
  go_enter Try.func65, Try.ntmps65
  go_wp2
  go_loopw [5] (fun iv wr => ∃ i : Nat, iv = .int .i64 (i : Int) ∧ 1 ≤ i ∧ i ≤ wd ∧ Hid (∃ t', Tr wr B pb g n c wd t' ∧ Lst D t' o i ∧ Kp (fun k => k = g) w wr)) (fun iv _ => wd - (intOf iv).toNat)
  case atStart => exact ⟨1, rfl, by omega, by omega, hide ⟨t, HT.out, HL.out, Kp.refl _ _⟩⟩
  case round =>
    obtain ⟨i, rfl, hi1, hi2, hI⟩ := hrel
    obtain ⟨t', h1, h2, h3⟩ := hI.out
    have c0 := h1.wid
    have c1 := h1.row
    have hi0 : (0 : Int) ≤ (i : Int) := by omega
    by_cases hlt : i < wd
    · have hltI : (i : Int) < (wd : Int) := by omega
      have HA := hand93 wr B pb g n c wd t' i h1 (by omega) (by have := HN.out; omega) hN1
      have HJ := hide (And.intro h2 h3)
      clear hI h1 h2 h3
      go_wp2_with fail
      refine HA.mono ?_; rintro e w4 ⟨rfl, t2, hT2, hH, hk4⟩
      have HQ := hide (And.intro hT2 (And.intro hH hk4))
      clear hT2 hH hk4 HA
      go_wp2
      obtain ⟨hT2, hH, hk4⟩ := HQ.out
      exact ⟨⟨i + 1, by go_num, by omega, by omega, hide ⟨t2, hT2, HJ.out.1.step (by omega) (by rw [← HD.out]; omega) hH, HJ.out.2.trans hk4 (fun _ _ e => e)⟩⟩, by simp [intOf]; omega⟩
    · have hltI : ¬ (i : Int) < (wd : Int) := by omega
      have ei : i = wd := by omega
      have f1 : IntKind.i64.wrap ((wd : Int) + (P : Int)) = (wd : Int) + (P : Int) := by rw [IntKind.wrap_i64]; omega
      have f2 : (0 : Int) ≤ (wd : Int) := by omega
      have f3 : (wd : Int) ≤ (wd : Int) + (P : Int) := by omega
      have f4 : (wd : Int) + (P : Int) ≤ (n : Int) := by have := HN.out; omega
      have f5 : (wd : Int) + (P : Int) ≤ (c : Int) := by omega
      have f6 : (wd : Int).toNat = wd := by omega
      have f7 : ((wd : Int) + (P : Int)).toNat = wd + P := by omega
      have f8 : ((wd : Int) + (P : Int) - (wd : Int)).toNat = P := by omega
      have f9 : ¬ c = wd := by omega
      have HJ := hide (And.intro h1 (And.intro h2 (And.intro h3 ei)))
      clear hI h1 h2 h3 ei
      go_wp2_with fail
      go_region
      go_wp2
      go_ret
      obtain ⟨h1, h2, h3, ei⟩ := HJ.out
      refine ⟨rfl, t', h1.drew, fun q hq => ?_, h3.drew⟩
      rw [ei] at h2
      have := HD.out
      rw [this] at h2 ⊢
      exact h2.done (by omega)
end Go.Proofs.Ytbifmcadllilhaa.Rg
namespace Go.Proofs.Ytbifmcadllilhaa.Rg
open Go.RowKit Go.Shelf Go.Sort
set_option linter.unusedVariables false
theorem unhidL {p : Prop} (h : Hid p) : p := h.out
theorem zero_row8 (N : Nat) : (madeCells (Value.int .u8 0).cells (N * 1)).toList = ucs8 (List.replicate N 0) := by
  unfold ucs8
  rw [List.map_replicate]
  simp only [madeCells, Value.cells]
  simp [Nat.mod_one, List.map_const']
theorem made_at {w : World} {B g n e : Nat} {xs : List Value} (h : w.ownsRow B e 1 (.slice (some ⟨g, 0, none⟩) n n) n xs) : w.heap[g]? = some (.cells xs.toArray e (0, 0)) := by
  rcases h.2 with ⟨e0, _⟩ | ⟨g', cap', cur, e0, hb, hg, h1, h2, h3, h4⟩
  · cases e0
  · cases e0
    rw [← h4, List.take_of_length_le (by simp [h3]), Array.toArray_toList]
    exact hg
theorem made_own {w : World} {B g n e : Nat} {xs : List Value} (hB : B ≤ g) (hn : n ≤ maxLen) (hx : xs.length = n) (h : w.heap[g]? = some (.cells xs.toArray e (0, 0))) : w.ownsRow B e 1 (.slice (some ⟨g, 0, none⟩) n n) n xs :=
  ⟨by omega, .inr ⟨g, n, xs.toArray, rfl, hB, h, Nat.le_refl _, hn, by simp; omega, by rw [Nat.mul_one, ← hx]; simp⟩⟩
open Go.RowKit in
theorem wpList_copy_keep {P : Program} {w : World} {ops : Array Oper} {rest : List Oper} {o : Oper} {a : Act} {Q : Exit → Act → World → Prop} (hgd : o.guard = none) (d s : Operand) (dT sT : TypeId)
    (ho : o.op = .call { callee := .builtin .copy, args := #[d, s], argTypes := #[dT, sT] }) (elem : TypeId) (hu : P.underlying dT = some (.slice elem)) (hsz : (P.info? elem).map (·.size) = some 1)
    (g off dLen dCap : Nat) (ad : Addr) (sLen sCap : Nat) (hd : a.eval d = .slice (some ⟨g, off, none⟩) dLen dCap) (hs : a.eval s = .slice (some ad) sLen sCap)
    (cur : List Value) (t : TypeId) (hg : w.heap[g]? = some (.cells cur.toArray t (0, 0))) (cs : List Value) (hn : cs.length = Nat.min sLen dLen)
    (hsrc : ∀ j v, cs[j]? = some v → w.cell? (ad.add j) = some v) (hfit : off + cs.length ≤ cur.length) (h1 : ∀ v ∈ cs, v.oneCell' = true)
    (h : ∀ w', Hid (w'.heap[g]? = some (.cells (splice cur off cs).toArray t (0, 0))) → Kp (fun k => k = g) w w' → wpList P ops Q rest (a.put o.dst (goInt cs.length)) w') :
    wpList P ops Q (o :: rest) a w := by
  refine wpList_copy_own hgd d s dT sT ho elem hu hsz g off dLen dCap ad sLen sCap hd hs cur.toArray t hg cs hn hsrc (by simpa using hfit) h1 ?_
  exact h _ (hide (by simpa [splice] using setRow_heap w g _ _ t _ hg)) ⟨rfl, rfl, rfl, by simp [World.setRow], fun k hk hne => setRow_other w g k _ hne⟩
theorem info57s : (Try.prog.info? 57).map (·.size) = some 1 := by kernel_rfl
/-- the row behind the copy -/
def tr0 (n k : Nat) (H : List Int) : List Int := List.replicate k 0 ++ (H ++ List.replicate (n - k - H.length) 0)
theorem splice8 {n k : Nat} {H : List Int} (h : k + H.length ≤ n) : splice (ucs8 (List.replicate n 0)) k (ucs8 H) = ucs8 (tr0 n k H) := by
  unfold splice tr0 ucs8
  rw [List.length_map, ← List.map_take, ← List.map_drop, ← List.map_append, ← List.map_append, List.take_replicate, List.drop_replicate, Nat.min_eq_left (by omega), Nat.sub_sub]
theorem tr0_len {n k : Nat} {H : List Int} (h : k + H.length ≤ n) : (tr0 n k H).length = n := by
  unfold tr0
  simp
  omega
theorem gt_replicate (n i : Nat) : gt (List.replicate n 0) i = 0 := by
  unfold gt
  rw [List.getD_eq_getElem?_getD, List.getElem?_replicate]
  split <;> rfl
theorem tr0_gt {n k : Nat} {H : List Int} (h : k + H.length ≤ n) (q : Nat) : gt (tr0 n k H) (k + q) = gt H q := by
  unfold tr0 gt
  rw [List.getD_eq_getElem?_getD, List.getD_eq_getElem?_getD, List.getElem?_append_right (by simp), List.length_replicate, Nat.add_sub_cancel_left]
  by_cases c : q < H.length
  · rw [List.getElem?_append_left c]
  · rw [List.getElem?_append_right (by omega), List.getElem?_replicate, List.getElem?_eq_none (l := H) (by omega)]
    split <;> rfl
theorem info57z : (Try.prog.info? 57).map (fun i => (i.zero, i.size, i.bytes)) = some (some (.int .u8 0), 1, 1) := by kernel_rfl
set_option maxRecDepth 100000 in
set_option maxHeartbeats 2000000 in
theorem owners61 (w : World) (B hg P hc : Nat) (H : List Int) (hH : w.ownsRow B 57 1 (.slice (some ⟨hg, 0, none⟩) P hc) P (ucs8 H)) (hl : H.length = P) (h0 : 0 < P) (hP : P ≤ 20000) (hv : ∀ k, gt H k ≠ 255) :
    Calls Try.prog 61 #[.slice (some ⟨hg, 0, none⟩) P hc] w fun e w' => ∃ pb, e = .returned (.pointer (some ⟨pb, 0, none⟩)) ∧ ∃ g c D t, OwT w' w.heap.size pb g c D (fun q => gt H q) t ∧ P ≤ 2 ^ D ∧ 2 ^ D ≤ 2 * P ∧ Kp Nu w w' := by
  have mixed : Try.prog.follows .mixedOrders = true := by kernel_rfl
  obtain ⟨z0, hzi, hz0, hz1, hz2⟩ := info_parts info57z
  have hP0 : (0 : Int) ≤ (P : Int) := by omega
  have hP1 : (P : Int) ≤ 20000 := by omega
  have HH := hide (And.intro hH (And.intro hl hv))
  clear hH hl hv
  go_enter Try.func61, Try.ntmps61
  go_wp2
  go_loopw [3] (fun wv wr => ∃ k : Nat, wv = .int .i64 (k : Int) ∧ 1 ≤ k ∧ k ≤ 40000 ∧ Hid (∃ e, k = 2 ^ e ∧ (k = 1 ∨ k < 2 * P)) ∧ wr = w) (fun wv _ => P - (intOf wv).toNat)
  case atStart => exact ⟨1, rfl, by omega, by omega, hide ⟨0, by simp, .inl rfl⟩, rfl⟩
  case round =>
    obtain ⟨k, rfl, hk1, hk2, hI, rfl⟩ := hrel
    have hk0 : (0 : Int) ≤ (k : Int) := by omega
    have hk3 : (k : Int) ≤ 40000 := by omega
    by_cases hlt : k < P
    · have hltI : (k : Int) < (P : Int) := by omega
      go_wp2
      refine ⟨⟨2 * k, by go_num, by omega, by omega, hide ?_, by first | trivial | rfl⟩, by simp [intOf]; omega⟩
      obtain ⟨e, he, _⟩ := hI.out
      exact ⟨e + 1, by rw [Nat.pow_succ, ← he]; omega, .inr (by omega)⟩
    · have hltI : ¬ (k : Int) < (P : Int) := by omega
      obtain ⟨n, hn⟩ : ∃ n, n = 2 * k := ⟨_, rfl⟩
      have e1 : IntKind.i64.wrap (2 * (k : Int)) = (n : Int) := by rw [IntKind.wrap_i64]; omega
      have e2 : 2 * (k : Int) = (n : Int) := by omega
      have hnn : n ≤ 80000 := by omega
      have HN := hide hn
      clear hn
      go_wp2_with (at_make; refine wpList_make_full _ rfl _ _ 111 rfl wr.heap.size 57 z0 _ 1 Try.underlying111 hzi hz0 hz1 _ _ _ _ n rfl rfl rfl rfl (by rw [hz2]; omega) (by unfold maxLen; omega) (Nat.le_refl _) ?_; intro w4 hrow4 hgr4; refine unhidL ?_)
      refine hide ?_
      rw [zero_row8] at hrow4
      have k4 : Kp Nu wr w4 := (Kp.of_grown hgr4).mono (fun _ _ e => by cases e)
      have g4 := made_at hrow4
      obtain ⟨w5, hw5⟩ : ∃ w5, w4.alloc (.cells #[.int .i64 (k : Int), .slice (some ⟨wr.heap.size, 0, none⟩) n n] 148) = w5 := ⟨_, rfl⟩
      have k45 : Kp Nu w4 w5 := by rw [← hw5]; exact Kp.alloc _ _ _
      have b5 : w5.heap[w4.heap.size]? = some (.cells #[.int .i64 (k : Int), .slice (some ⟨wr.heap.size, 0, none⟩) n n] 148 (0, 0)) := by rw [← hw5]; exact heap_alloc_new w4 _
      have g5 := box2 g4 k45
      have c50 : w5.cell? ⟨w4.heap.size, 0, none⟩ = some (.int .i64 (k : Int)) := by simp [World.cell?, b5]
      have c51 : w5.cell? ⟨w4.heap.size, 1, none⟩ = some (.slice (some ⟨wr.heap.size, 0, none⟩) n n) := by simp [World.cell?, b5]
      have hkn : k < n := by have := HN.out; omega
      have hg4 : wr.heap.size < w4.heap.size := blk_lt g4
      have f1 : ¬ n = k := by omega
      have f2 : (k : Int) ≤ (n : Int) := by omega
      have f3 : (k : Int).toNat = k := by omega
      obtain ⟨hH, hl, hvv⟩ := HH.out
      obtain ⟨cs, hcs⟩ : ∃ cs, cs = ucs8 H := ⟨_, rfl⟩
      obtain ⟨cur, hcur⟩ : ∃ cur, cur = ucs8 (List.replicate n 0) := ⟨_, rfl⟩
      rw [← hcur] at g5
      have csl : cs.length = P := by rw [hcs, ucs8_len]; exact hl
      have curl : cur.length = n := by rw [hcur, ucs8_len]; simp
      have hpos : ∀ j v, cs[j]? = some v → w5.cell? ((⟨hg, 0, none⟩ : Addr).add j) = some v := fun j v hj => by
        have hown := own_keep hH (fun g e => (k4.andNu k45).block g (own_lt hH e) (fun h => h))
        rw [hcs] at hj
        rw [show P = (ucs8 H).length by rw [ucs8_len, hl]] at hown
        obtain ⟨r, cap, e2, _, h1, _⟩ := row1_at hown hj
        simp only [Value.slice.injEq, Option.some.injEq, Addr.mk.injEq, and_true] at e2
        obtain ⟨rfl, _⟩ := e2
        rw [Addr.add_lit, Nat.zero_add]
        exact h1
      have one : ∀ v ∈ cs, v.oneCell' = true := fun v hv => by
        rw [hcs] at hv
        obtain ⟨x, _, rfl⟩ := List.mem_map.1 hv
        rfl
      have bel : Below wr.heap.size wr w5 := (k4.andNu k45).toBelow
      have hmin : cs.length = Nat.min P (n - k) := by rw [csl]; exact (Nat.min_eq_left (by have := HN.out; omega)).symm
      have HC := hide (And.intro hpos (And.intro one (And.intro bel (And.intro hmin (And.intro csl curl)))))
      have HQ := hide (And.intro hcs (And.intro hcur (And.intro b5 (And.intro k4 k45))))
      have HG5 := hide g5
      clear hrow4 hgr4 k4 g4 k45 b5 g5 hH hl hvv hcs hcur csl curl hpos one bel hmin
      have hfit : Hid (k + cs.length ≤ cur.length) := hide (by rw [HC.out.2.2.2.2.1, HC.out.2.2.2.2.2]; have := HN.out; omega)
      go_wp2_with (first
        | (guard_target =~ wpList _ _ _ ({ dst := _, op := Op.call { callee := Callee.builtin Builtin.copy, args := _, argTypes := _ }, type := _, pos := _, after := _, guard := _ } :: _) _ _; refine wpList_copy_keep rfl _ _ 111 111 rfl 57 Try.underlying111 info57s wr.heap.size k (n - k) (n - k) ⟨hg, 0, none⟩ P hc rfl rfl cur 57 HG5.out cs HC.out.2.2.2.1 HC.out.1 hfit.out HC.out.2.1 ?_; intro w6 HG6 hK6; refine unhidL ?_))
      refine hide ?_
      obtain ⟨hcs, hcur, b5, k4, k45⟩ := HQ.out
      obtain ⟨hH, hl, hvv⟩ := HH.out
      obtain ⟨D, hD, hD2⟩ := hI.out
      have hfit' : k + H.length ≤ n := by rw [hl]; have := HN.out; omega
      have g6 := HG6.out
      rw [hcs, hcur, splice8 hfit'] at g6
      have b6 : w6.heap[w4.heap.size]? = some (.cells #[.int .i64 (k : Int), .slice (some ⟨wr.heap.size, 0, none⟩) n n] 148 (0, 0)) := blk_kp b5 hK6 (by omega)
      have T6 : Tr w6 wr.heap.size w4.heap.size wr.heap.size n n k (tr0 n k H) :=
        ⟨made_own (Nat.le_refl _) (by unfold maxLen; omega) (by rw [ucs8_len]; exact tr0_len hfit') g6, tr0_len hfit', by omega, by simp [World.cell?, b6], by simp [World.cell?, b6]⟩
      have hleaf : ∀ j, k ≤ j → gt (tr0 n k H) j ≠ 255 := fun j hj => by
        rw [show j = k + (j - k) by omega, tr0_gt hfit']; exact hvv _
      have G6 := Gth.start (D := D) (t := tr0 n k H) (fun j hj => hleaf j (by omega))
      rw [← hD] at G6
      have K6 : Kp Nu wr w6 := (k4.andNu k45).trans hK6 (fun i hi e => by omega)
      obtain ⟨t0, ht0⟩ : ∃ t0, t0 = tr0 n k H := ⟨_, rfl⟩
      rw [← ht0] at T6 G6
      have HT6 := hide (And.intro T6 (And.intro G6 (And.intro K6 (And.intro ht0 (And.intro hD (And.intro hD2 (And.intro hvv (And.intro hl hfit'))))))))
      have e3 : IntKind.i64.wrap ((k : Int) - 1) = (k : Int) - 1 := by rw [IntKind.wrap_i64]; omega
      clear HG6 hK6 hcs hcur b5 k4 k45 hH hl hvv hD hD2 hfit' g6 b6 T6 hleaf G6 K6 HG5 HC HQ hfit c50 c51 hw5 ht0
      obtain ⟨pb, hpb⟩ : ∃ pb, w4.heap.size = pb := ⟨_, rfl⟩
      rw [hpb] at HT6 ⊢
      clear hpb hg4
      generalize hwl : wr = wl at *
      have HWL := hide hwl
      clear hwl
      go_wp2
      go_loopw [5] (fun iv wx => ∃ i : Nat, iv = .int .i64 (i : Int) ∧ i < k ∧ Hid (∃ t', Tr wx wl.heap.size pb wl.heap.size n n k t' ∧ Gth D t' i ∧ (∀ j, k ≤ j → gt t' j = gt (tr0 n k H) j) ∧ Kp Nu wl wx)) (fun iv _ => (intOf iv).toNat)
      case atStart =>
        obtain ⟨T6, G6, K6, ht0, _⟩ := HT6.out
        exact ⟨k - 1, by go_num, by omega, hide ⟨t0, T6, G6, fun j _ => by rw [ht0], K6⟩⟩
      case round =>
        obtain ⟨i, rfl, hik, hJ⟩ := hrel
        obtain ⟨t', h1, h2, h3, h4⟩ := hJ.out
        have hi0 : (0 : Int) ≤ (i : Int) := by omega
        have hi9 : (i : Int) ≤ 40000 := by omega
        by_cases hip : 0 < i
        · have hipI : (0 : Int) < (i : Int) := by omega
          have hipG : (i : Int) > 0 := by omega
          have GA := gather88 wr wl.heap.size pb wl.heap.size n n k t' i h1 hip (by have := HN.out; omega) (by omega)
          have HJ := hide (And.intro h2 (And.intro h3 h4))
          clear hJ h1 h2 h3 h4
          go_wp2_with fail
          refine GA.mono ?_; rintro e w8 ⟨rfl, t2, q1, q2, q3, q4⟩
          have HQ := hide (And.intro q1 (And.intro q2 (And.intro q3 q4)))
          clear GA q1 q2 q3 q4
          go_wp2
          obtain ⟨q1, q2, q3, q4⟩ := HQ.out
          obtain ⟨h2, h3, h4⟩ := HJ.out
          obtain ⟨_, _, _, _, hD, _⟩ := HT6.out
          exact ⟨⟨i - 1, by go_num, by omega, hide ⟨t2, q1, h2.step hip (by rw [← hD]; exact hik) q2 q3, fun j hj => by rw [q2 j (by omega)]; exact h3 j hj, h4.trans q4 (fun x hx e => by omega)⟩⟩, by simp [intOf]; omega⟩
        · have hipI : ¬ (0 : Int) < (i : Int) := by omega
          have hipG : ¬ (i : Int) > 0 := by omega
          have HJ := hide (And.intro h1 (And.intro h2 (And.intro h3 h4)))
          clear hJ h1 h2 h3 h4
          go_wp2
          go_ret
          obtain ⟨h1, h2, h3, h4⟩ := HJ.out
          obtain ⟨_, _, _, _, hD, hD2, hvv, hl, hfit'⟩ := HT6.out
          obtain rfl : i = 0 := by omega
          obtain ⟨r1, r2⟩ := h2 D 1 (by omega) (nd_root D)
          have hn := HN.out
          refine ⟨pb, rfl, ?_⟩
          rw [HWL.out]
          refine ⟨wl.heap.size, n, D, ⟨t', ⟨by rw [← hD, ← hn]; exact h1, r1, fun q hq => ?_⟩⟩, by omega, by omega, h4⟩
          rw [r2 q hq, Nat.one_mul, h3 _ (by omega), ← hD]
          exact tr0_gt hfit' q
end Go.Proofs.Ytbifmcadllilhaa.Rg
