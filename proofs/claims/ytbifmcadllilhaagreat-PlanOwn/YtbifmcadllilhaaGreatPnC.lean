import Derived.Test.YtbifmcadllilhaaGreatRows
import Derived.WalkKit
import Derived.WalkLawsBesides
import Derived.ProofKit
import Derived.Below
import Derived.Laws.AppendOwn
import Derived.Maps.AppendAt
import Derived.Maps.OwnSet
import Derived.Maps.RangeWalk
import Derived.OwnWalk
import Derived.DeepKeys4
import Derived.Laws.AppendOwnNone
import Derived.Deep.QuietTactic
import Derived.BigQuiet
import Derived.RegionTactic
import Derived.ChangeAlike
import Derived.BigRegion
import Derived.Deep.AppendLies
namespace Go.Proofs.YtbifmcadllilhaaGreat.Pn
open Go.RowKit
set_option linter.unusedVariables false
theorem hide {p : Prop} (h : p) : Hid p := h
theorem unhid {p : Prop} (h : Hid p) : p := h
/-- nothing has turned but blocks of S, and new blocks. -/
structure Kp (S : Nat → Prop) (w w' : World) : Prop where
  os : w'.os = w.os
  tape : w'.tape = w.tape
  output : w'.output = w.output
  size : w.heap.size ≤ w'.heap.size
  block : ∀ k, k < w.heap.size → ¬ S k → w'.heap[k]? = w.heap[k]?
def Nu : Nat → Prop := fun _ => False

theorem Kp.refl (S : Nat → Prop) (w : World) : Kp S w w := ⟨rfl, rfl, rfl, Nat.le_refl _, fun _ _ _ => rfl⟩
theorem Kp.trans {S T : Nat → Prop} {a b c : World} (h : Kp S a b) (k : Kp T b c) (hT : ∀ i, i < a.heap.size → T i → S i) : Kp S a c :=
  ⟨k.os.trans h.os, k.tape.trans h.tape, k.output.trans h.output, Nat.le_trans h.size k.size,
    fun i hi hS => (k.block i (Nat.lt_of_lt_of_le hi h.size) (fun ht => hS (hT i hi ht))).trans (h.block i hi hS)⟩
theorem Kp.andNu {S : Nat → Prop} {a b c : World} (h : Kp S a b) (k : Kp Nu b c) : Kp S a c := h.trans k (fun _ _ e => e.elim)
theorem Kp.of_grown {w w' : World} {row : Option Nat} (h : w.grownBy w' row) : Kp (fun k => some k = row) w w' :=
  ⟨h.os, h.tape, h.output, h.size, fun k hk hn => h.block k hk hn⟩
theorem Kp.mono {S T : Nat → Prop} {w w' : World} (h : Kp S w w') (hT : ∀ i, i < w.heap.size → S i → T i) : Kp T w w' :=
  ⟨h.os, h.tape, h.output, h.size, fun k hk hn => h.block k hk (fun hs => hn (hT k hk hs))⟩
theorem Kp.drew {S : Nat → Prop} {a w : World} (h : Kp S a w) : Kp S a w.drew := ⟨h.os, h.tape, h.output, h.size, h.block⟩
theorem Kp.alloc (w : World) (o : Obj) (S : Nat → Prop) : Kp S w (w.alloc o) := ⟨rfl, rfl, rfl, by simp, fun k hk _ => Below.heap_alloc w o k hk⟩
theorem Kp.andAlloc {S : Nat → Prop} {w w1 : World} (h : Kp S w w1) (o : Obj) : Kp S w (w1.alloc o) := h.trans (Kp.alloc w1 o Nu) (fun _ _ h => h.elim)
theorem Kp.setCell (w : World) (a : Addr) (u : Value) : Kp (fun k => k = a.block) w (w.setCell a u) :=
  ⟨rfl, rfl, rfl, by simp [World.setCell], fun k _ hn => Below.heap_setCell w a u k hn⟩
theorem Kp.andSet {S : Nat → Prop} {w w1 : World} (h : Kp S w w1) (a : Addr) (u : Value) (ha : w.heap.size ≤ a.block ∨ S a.block) : Kp S w (w1.setCell a u) :=
  h.trans (Kp.setCell w1 a u) (fun i hi e => by have e : i = a.block := e; subst e; rcases ha with h | h; · omega
                                                · exact h)
theorem Kp.below {S : Nat → Prop} {w w' : World} (h : Kp S w w') (B : Nat) (hB : B ≤ w.heap.size) (hS : ∀ k, S k → B ≤ k) : Below B w w' :=
  ⟨h.os, h.tape, h.output, h.size, fun k hk => h.block k (by omega) (fun hs => by have := hS k hs; omega)⟩
theorem Kp.toBelow {w w' : World} (h : Kp Nu w w') : Below w.heap.size w w' := ⟨h.os, h.tape, h.output, h.size, fun k hk => h.block k hk (fun h => h)⟩
theorem Kp.of_below {w w' : World} (h : Below w.heap.size w w') : Kp Nu w w' := ⟨h.os, h.tape, h.output, h.size, fun k hk _ => h.block k hk⟩

theorem free3 {w : World} {b : Nat} {c : Array Value} {t : TypeId} (h : w.heap[b]? = some (.cells c t (0, 0))) (o : Nat) : w.frozen? ⟨b, o, none⟩ = false := by
  simp [World.frozen?, h]
theorem set3 {w : World} {b : Nat} {c : Array Value} {t : TypeId} (h : w.heap[b]? = some (.cells c t (0, 0))) (o : Nat) (u : Value) :
    (w.setCell ⟨b, o, none⟩ u).heap[b]? = some (.cells (c.setIfInBounds o u) t (0, 0)) := by
  simp [World.setCell, Array.getElem?_modify, h]
theorem blk_lt {w : World} {b : Nat} {o : Obj} (h : w.heap[b]? = some o) : b < w.heap.size := by
  rcases Nat.lt_or_ge b w.heap.size with hlt | hge
  · exact hlt
  · rw [Array.getElem?_eq_none hge] at h; cases h

theorem add_block (a : Addr) (j : Nat) : (a.add j).block = a.block := by
  unfold Addr.add
  first | rfl | (split <;> rfl)
/-- a row of one's own stands while its block does -/
theorem own_keep {w w' : World} {B e size n : Nat} {v : Value} {xs : List Value} (h : w.ownsRow B e size v n xs) (hk : ∀ g, v.ownBlock = some g → w'.heap[g]? = w.heap[g]?) : w'.ownsRow B e size v n xs := by
  refine ⟨h.1, ?_⟩
  rcases h.2 with ⟨rfl, h0⟩ | ⟨g, cap, cur, rfl, hb', hg, h1, h2, h3, h4⟩
  · exact .inl ⟨rfl, h0⟩
  · exact .inr ⟨g, cap, cur, rfl, hb', (hk g rfl).trans hg, h1, h2, h3, h4⟩
theorem own_obj {w : World} {B e size n : Nat} {v : Value} {xs : List Value} (h : w.ownsRow B e size v n xs) {g : Nat} (hg : v.ownBlock = some g) : ∃ cur, w.heap[g]? = some (.cells cur e (0, 0)) := by
  rcases h.2 with ⟨rfl, h0⟩ | ⟨g', cap, cur, rfl, hb', hg', _⟩
  · cases hg
  · simp [Value.ownBlock] at hg; subst hg; exact ⟨cur, hg'⟩
theorem own_lt {w : World} {B e size n : Nat} {v : Value} {xs : List Value} (h : w.ownsRow B e size v n xs) {g : Nat} (hg : v.ownBlock = some g) : g < w.heap.size := by
  obtain ⟨cur, hc⟩ := own_obj h hg
  exact blk_lt hc
theorem own_slice {w : World} {B e size n : Nat} {v : Value} {xs : List Value} (h : w.ownsRow B e size v n xs) : ∃ ad cap, v = .slice ad n cap := by
  rcases h.2 with ⟨rfl, h0⟩ | ⟨g', cap, cur, rfl, hb', hg', _⟩
  · exact ⟨none, 0, by rw [h0]⟩
  · exact ⟨_, cap, rfl⟩

theorem cellAt {w : World} {b : Nat} {c : Array Value} {ty : TypeId} {v : Value} (h : w.heap[b]? = some (.cells c ty (0, 0))) (i : Nat) (hi : c[i]? = some v) : w.cell? ⟨b, i, none⟩ = some v := by simp [World.cell?, h, hi]
theorem own_base {w : World} {base base' e size n : Nat} {v : Value} {l : List Value} (h : w.ownsRow base e size v n l) (hb : base' ≤ base) : w.ownsRow base' e size v n l := by
  refine ⟨h.1, ?_⟩
  rcases h.2 with h | ⟨g, cap, cur, h1, h2, h3⟩
  · exact .inl h
  · exact .inr ⟨g, cap, cur, h1, Nat.le_trans hb h2, h3⟩
theorem heap_new (w : World) (o : Obj) : (w.alloc o).heap[w.heap.size]? = some o := by
  show (w.heap.push o)[w.heap.size]? = some o
  simp
theorem new_at (w : World) (o : Obj) {w2 : World} (k : Kp Nu (w.alloc o) w2) : w2.heap[w.heap.size]? = some o :=
  (k.block _ (by simp) (fun h => h)).trans (heap_new w o)
theorem box_k {w w1 : World} {b : Nat} {c : Array Value} {ty : TypeId} (h : w.heap[b]? = some (.cells c ty (0, 0))) (k : Kp Nu w w1) : w1.heap[b]? = some (.cells c ty (0, 0)) := (k.block b (blk_lt h) (fun h => h)).trans h
theorem kp_dn (w : World) (n : Nat) : Kp Nu w (w.drewN n) := ⟨rfl, rfl, rfl, Nat.le_refl _, fun _ _ _ => rfl⟩
theorem kp_drawn (w : World) : Kp Nu w w.drew := ⟨rfl, rfl, rfl, Nat.le_refl _, fun _ _ _ => rfl⟩
theorem own_ge {w : World} {B e size n : Nat} {v : Value} {xs : List Value} (h : w.ownsRow B e size v n xs) {g : Nat} (hg : v.ownBlock = some g) : B ≤ g := by
  rcases h.2 with ⟨rfl, h0⟩ | ⟨g', cap, cur, rfl, hb', hg', _⟩
  · cases hg
  · simp [Value.ownBlock] at hg
    omega
/-- numbers in memory -/
def Ns (w : World) (u : Value) (o : List Int) : Prop := ∃ a cap, u = .slice a o.length cap ∧ o.length ≤ cap ∧ ∀ (j : Nat) x, o[j]? = some x → ∃ b : Addr, a = some b ∧ w.cell? (b.add j) = some (.int .i64 x)
theorem Ns.nu {w w' : World} {u : Value} {o : List Int} (h : Ns w u o) (k : Kp Nu w w') : Ns w' u o := by
  obtain ⟨a, cap, h0, h2, h1⟩ := h
  refine ⟨a, cap, h0, h2, fun j x hx => ?_⟩
  obtain ⟨b, hb, hc⟩ := h1 j x hx
  exact ⟨b, hb, (World.cell?_of_block (k.block _ (World.block_lt_of_cell? w _ hc) (fun h => h))).trans hc⟩
theorem Ns.at_ {w : World} {a : Option Addr} {n cap : Nat} {o : List Int} (h : Ns w (.slice a n cap) o) {j : Nat} {x : Int} (hx : o[j]? = some x) : ∃ b : Addr, a = some b ∧ w.cell? (b.add j) = some (.int .i64 x) := by
  obtain ⟨a', cap', h0, h2, h1⟩ := h
  simp only [Value.slice.injEq] at h0
  obtain ⟨rfl, _, _⟩ := h0
  exact h1 j x hx
theorem Ns.len {w : World} {a : Option Addr} {n cap : Nat} {o : List Int} (h : Ns w (.slice a n cap) o) : n = o.length := by
  obtain ⟨a', cap', h0, h2, h1⟩ := h
  simp only [Value.slice.injEq] at h0
  exact h0.2.1
theorem Ns.cap {w : World} {a : Option Addr} {n cap : Nat} {o : List Int} (h : Ns w (.slice a n cap) o) : n ≤ cap := by
  obtain ⟨a', cap', h0, h2, h1⟩ := h
  simp only [Value.slice.injEq] at h0
  omega
theorem Ns.take {w : World} {a : Option Addr} {n cap : Nat} {o : List Int} (h : Ns w (.slice a n cap) o) {i : Nat} (hi : i ≤ n) : Ns w (.slice a i cap) (o.take i) := by
  have hl := h.len
  have hc := h.cap
  refine ⟨a, cap, by rw [List.length_take, Nat.min_eq_left (by omega)], by rw [List.length_take]; omega, fun j x hx => ?_⟩
  have hj : j < i := by
    have := (List.getElem?_eq_some_iff.1 hx).1
    rw [List.length_take] at this
    omega
  rw [List.getElem?_take_of_lt hj] at hx
  exact h.at_ hx
/-- numbers as cells -/
def ics (o : List Int) : List Value := o.map (Value.int .i64)
theorem ics_len (o : List Int) : (ics o).length = o.length := by simp [ics]
theorem info3z : (Tryz.prog.info? 3).map (fun i => (i.zero, i.size, i.bytes)) = some (some (.int .i64 0), 1, 8) := by kernel_rfl
theorem Ns.of_own {w : World} {B : Nat} {v : Value} {o : List Int} (h : w.ownsRow B 3 1 v o.length (ics o)) : Ns w v o := by
  rcases h.2 with ⟨rfl, h0⟩ | ⟨g, cap, cur, rfl, hb', hg, h1, h2, h3, h4⟩
  · obtain rfl : o = [] := List.eq_nil_of_length_eq_zero h0
    exact ⟨none, 0, rfl, by simp, fun j x hx => by simp at hx⟩
  · refine ⟨some ⟨g, 0, none⟩, cap, rfl, by omega, fun j x hx => ⟨_, rfl, ?_⟩⟩
    have hj : (ics o)[j]? = some (.int .i64 x) := by simp [ics, hx]
    rw [← h4] at hj
    have hj2 : j < o.length * 1 := by
      have := (List.getElem?_eq_some_iff.1 hj).1
      rw [List.length_take] at this
      omega
    rw [List.getElem?_take_of_lt hj2] at hj
    rw [Addr.add_lit]
    simpa [World.cell?, hg] using hj
/-- numbers appended to none: a row of one's own -/
theorem append_ns {w : World} {ops : Array Oper} {rest : List Oper} {op : Oper} {a : Act} {Q : Exit → Act → World → Prop} (hgd : op.guard = none) (s x : Operand)
    (ho : op.op = .call { callee := .builtin .append, args := #[s, x], argTypes := #[45, 45] }) (base : Nat) (va : Option Addr) (vc : Nat) (o : List Int) (hl : o.length * 8 ≤ 140737488351232)
    (hs : a.eval s = .slice none 0 0) (hx : a.eval x = .slice va o.length vc) (hO : Ns w (.slice va o.length vc) o) (hnil : va = none → vc = 0) (hbase : base ≤ w.heap.size)
    (h : ∀ oa oc w', w'.ownsRow base 3 1 (.slice oa o.length oc) o.length (ics o) → Kp Nu w w' → wpList Tryz.prog ops Q rest (a.put op.dst (.slice oa o.length oc)) w') : wpList Tryz.prog ops Q (op :: rest) a w := by
  obtain ⟨i0, hi0, hz0, hz1, hz2⟩ := info_parts info3z
  rcases va with _ | ad
  · have hM0 : o = [] := by
      cases o with
      | nil => rfl
      | cons x o => obtain ⟨b, hb, _⟩ := hO.at_ (j := 0) rfl; cases hb
    have hvc := hnil rfl
    subst hM0
    subst hvc
    exact wpList_append_own_none hgd s x 45 ho base 3 i0 1 Tryz.underlying45 hi0 _ 0 [] hs (World.ownsRow_nil _ _ _ _) hx (h none 0 _ (World.ownsRow_nil _ _ _ _) (Kp.refl _ _))
  · refine wpList_append_own _ hgd s x 45 ho base 3 i0 _ 1 8 Tryz.underlying45 hi0 hz0 hz1 hz2 rfl (by decide) (.slice none 0 0) 0 [] hs (World.ownsRow_nil _ _ _ _) ad o.length vc (ics o) hx (by simp [ics_len]) (fun j x hj => ?_) (fun u hu => ?_) (by unfold maxLen; omega) (by omega) hbase ?_
    · simp only [ics, List.getElem?_map, Option.map_eq_some_iff] at hj
      obtain ⟨y, hy, rfl⟩ := hj
      obtain ⟨b, hb, hc⟩ := hO.at_ hy
      cases hb
      exact hc
    · obtain ⟨x, _, rfl⟩ := List.mem_map.1 hu
      rfl
    · intro v' w' h1 h2 _
      rw [Nat.zero_add, List.nil_append] at h1
      obtain ⟨oa, oc, rfl, _, _⟩ := id (Ns.of_own h1)
      exact h oa oc w' h1 ((Kp.of_grown h2).mono (fun i hi e => by simp [Value.ownBlock] at e))
theorem ics_snoc (o : List Int) (x : Int) : ics (o ++ [x]) = ics o ++ [.int .i64 x] := by simp [ics]
/-- a bool that says whether p -/
def Ans (p : Prop) (e : Ending) : Prop := ∃ b : Bool, e = .returned (.bool b) ∧ (b = true ↔ p)
set_option maxRecDepth 100000 in
set_option maxHeartbeats 1000000 in
theorem same11 (w : World) (u v : Value) (o : List Int) (hu : Ns w u o) (hv : Ns w v o) (hN : o.length ≤ 140737488351232) : Calls Tryz.prog 18 #[u, v] w fun e w' => e = .returned (.bool true) ∧ Kp Nu w w' := by
  obtain ⟨a1, c1, rfl, _, _⟩ := id hu
  obtain ⟨a2, c2, rfl, _, _⟩ := id hv
  obtain ⟨N, eN⟩ : ∃ N, o.length = N := ⟨_, rfl⟩
  have HU := hide (And.intro hu (And.intro hv eN))
  rw [eN] at hN ⊢
  have hNI : (N : Int) ≤ 140737488351232 := by omega
  have hnn : ((N : Int) != (N : Int)) = false := by simp
  clear hu hv eN hN
  go_enter Tryz.func18, Tryz.ntmps18
  go_wp2
  go_loopw [5] (fun iv wr => ∃ i : Nat, iv = .int .i64 (i : Int) ∧ i ≤ N ∧ Hid (Kp Nu w wr)) (fun iv _ => N - (intOf iv).toNat)
  case atStart => exact ⟨0, rfl, Nat.zero_le _, hide (Kp.refl _ _)⟩
  case round =>
    obtain ⟨i, rfl, hi, hk⟩ := hrel
    have hi0 : (0 : Int) ≤ (i : Int) := by omega
    by_cases hlt : i < N
    · have hltI : (i : Int) < (N : Int) := by omega
      obtain ⟨x, hx⟩ : ∃ x, o[i]? = some x := ⟨_, List.getElem?_eq_getElem (by rw [HU.out.2.2]; exact hlt)⟩
      obtain ⟨b1, rfl, k1⟩ := (HU.out.1.nu hk.out).at_ hx
      obtain ⟨b2, rfl, k2⟩ := (HU.out.2.1.nu hk.out).at_ hx
      have eti : (i : Int).toNat = i := by omega
      have hne : (x != x) = false := by simp
      clear hx
      go_wp2_with fail
      go_quiet (fail)
      go_wp2
      exact ⟨⟨i + 1, by go_num, by omega, hide (hk.out.andNu (kp_dn _ _))⟩, by simp [intOf]; omega⟩
    · have hge : ¬ (i : Int) < (N : Int) := by omega
      go_wp2
      go_ret
      exact ⟨rfl, hk.out⟩
set_option maxHeartbeats 1000000 in
theorem num12 (w : World) (x : Int) : Calls Tryz.prog 10 #[.int .i64 x] w fun e w' => e = .returned (.int .i64 x) ∧ w' = w := by
  go_enter Tryz.func10, Tryz.ntmps10
  go_wp2
  go_ret
  exact ⟨rfl, rfl⟩
end Go.Proofs.YtbifmcadllilhaaGreat.Pn
namespace Go.Proofs.YtbifmcadllilhaaGreat.Pn
open Go.RowKit Ieee
set_option linter.unusedVariables false
theorem cut0 (n : Nat) : Toward.even.cut false n 0 = n := by
  unfold Toward.cut
  simp [Nat.mod_one]
theorem rung_of (m : Nat) (h0 : 0 < m) (h1 : m < 2 ^ 41) : ∃ r, double.nearest false m 0 = double.word false r ∧ 2 ^ 52 ≤ r ∧ r < 2047 * 2 ^ 52 := by
  have hl : m.log2 < 41 := (Nat.log2_lt (by omega)).2 h1
  have hm := Nat.lt_log2_self (n := m)
  have e1 : max ((0 : Int) + (m.log2 : Int) - (double.fractionBits : Int)) double.leastPlace = (m.log2 : Int) - 52 := by
    have : double.leastPlace = -1074 := rfl
    have h2 : double.fractionBits = 52 := rfl
    rw [this, h2]
    omega
  have e2 : ((m.log2 : Int) - 52 - 0).toNat = 0 := by omega
  have e3 : ((0 : Int) - ((m.log2 : Int) - 52)).toNat = 52 - m.log2 := by omega
  have e4 : ((m.log2 : Int) - 52 - double.leastPlace).toNat = 1022 + m.log2 := by
    have : double.leastPlace = -1074 := rfl
    rw [this]
    omega
  have hb : double.binade = 2 ^ 52 := rfl
  have hi : double.infRung = 2047 * 2 ^ 52 := rfl
  have hk : m <<< (52 - m.log2) < 2 ^ 53 := by
    rw [Nat.shiftLeft_eq]
    have : m * 2 ^ (52 - m.log2) < 2 ^ (m.log2 + 1) * 2 ^ (52 - m.log2) := Nat.mul_lt_mul_of_pos_right hm (Nat.pow_pos (by decide))
    rw [← Nat.pow_add] at this
    have e : m.log2 + 1 + (52 - m.log2) = 53 := by omega
    rw [e] at this
    exact this
  generalize hK : m <<< (52 - m.log2) = K at hk
  refine ⟨(1022 + m.log2) * 2 ^ 52 + K, ?_, ?_, ?_⟩
  · unfold Format.nearest
    rw [if_neg (by omega)]
    simp only [e1, e2, e3, e4, hb, hi, cut0, hK]
    congr 1
    rw [Nat.min_eq_left]
    omega
  · omega
  · omega
theorem read_word (neg : Bool) (r : Nat) (h : r ≤ 2047 * 2 ^ 52) : (double.read (double.word neg r)).isNaN = false := by
  have hs : double.signWeight = 2 ^ 63 := rfl
  have hb : double.binade = 2 ^ 52 := rfl
  have hi : double.infRung = 2047 * 2 ^ 52 := rfl
  have hr : double.word neg r % double.signWeight = r := by
    unfold Format.word
    rw [hs]
    cases neg <;> simp <;> omega
  unfold Format.read
  simp only [hr, hb, hi]
  split
  · rfl
  · split
    · rfl
    · split
      · rfl
      · omega
theorem read_num (r : Nat) (h : r < 2047 * 2 ^ 52) : ∃ s m p, double.read (double.word false r) = .number s m p ∧ (2 ^ 52 ≤ r → 0 < m) := by
  have hs : double.signWeight = 2 ^ 63 := rfl
  have hb : double.binade = 2 ^ 52 := rfl
  have hi : double.infRung = 2047 * 2 ^ 52 := rfl
  have hr : double.word false r % double.signWeight = r := by
    unfold Format.word
    rw [hs]
    simp
    omega
  unfold Format.read
  simp only [hr, hb, hi]
  split
  · exact ⟨_, _, _, rfl, fun h => by omega⟩
  · exact ⟨_, _, _, rfl, fun _ => by omega⟩
theorem order_self {d : Datum} (h : d.isNaN = false) : d.order d = some .eq := by
  cases d with
  | number s m p => simp [Datum.order, compare, compareOfLessAndEq]
  | infinity s => simp [Datum.order, compare, compareOfLessAndEq]
  | nan s t => cases h
theorem write_ok (s : Bool) (m : Nat) (p : Int) : (double.read (double.write (.number s m p))).isNaN = false := by
  show (double.read (double.nearest s m p)).isNaN = false
  unfold Format.nearest
  split
  · exact read_word _ 0 (by omega)
  · exact read_word _ _ (Nat.min_le_right _ double.infRung)
theorem of_int (a : Int) (h : 0 ≤ a) (h1 : a < 2 ^ 41) : ∃ r, floatOfInt .f64 a = double.word false r ∧ r < 2047 * 2 ^ 52 ∧ (0 < a → 2 ^ 52 ≤ r) := by
  have e : floatOfInt .f64 a = double.nearest false a.natAbs 0 := by
    show double.write (.number (decide (a < 0)) a.natAbs 0) = _
    have : decide (a < 0) = false := by simpa using h
    rw [this]
    rfl
  rw [e]
  by_cases h0 : a = 0
  · subst h0
    exact ⟨0, rfl, by omega, fun h => by omega⟩
  · obtain ⟨r, h2, h3, h4⟩ := rung_of a.natAbs (by omega) (by omega)
    exact ⟨r, h2, h4, fun _ => h3⟩
/-- a quotient of whole numbers is a number -/
theorem quo_ok (a b : Int) (ha : 0 ≤ a) (ha1 : a < 2 ^ 41) (hb : 0 < b) (hb1 : b < 2 ^ 41) : ∃ r, floatBits .quo .f64 (floatOfInt .f64 a) (floatOfInt .f64 b) = some r ∧ FloatKind.f64.format.order r r = some .eq := by
  obtain ⟨ra, ea, la, _⟩ := of_int a ha ha1
  obtain ⟨rb, eb, lb, gb⟩ := of_int b (by omega) hb1
  obtain ⟨s, m, p, e1, _⟩ := read_num ra la
  obtain ⟨t, n, q, e2, hn⟩ := read_num rb lb
  have hn0 : n ≠ 0 := by have := hn (gb hb); omega
  obtain ⟨s', m', p', e3⟩ : ∃ s' m' p', (Datum.number s m p).quotient 54 (.number t n q) = some (.number s' m' p') := by
    simp only [Datum.quotient, if_neg hn0]
    exact ⟨_, _, _, rfl⟩
  refine ⟨double.write (.number s' m' p'), ?_, order_self (write_ok _ _ _)⟩
  show double.div _ _ = some _
  unfold Format.div
  rw [ea, eb, e1, e2]
  show Option.map double.write ((Datum.number s m p).quotient 54 (.number t n q)) = _
  rw [e3]
  rfl
end Go.Proofs.YtbifmcadllilhaaGreat.Pn
namespace Go.Proofs.YtbifmcadllilhaaGreat.Pn
open Go.RowKit
set_option linter.unusedVariables false
/-- the greatest, the least -/
def isMx (o : List Int) (m : Int) : Prop := m ∈ o ∧ ∀ x ∈ o, x ≤ m
def isMn (o : List Int) (m : Int) : Prop := m ∈ o ∧ ∀ x ∈ o, m ≤ x
theorem isMx.one (x : Int) : isMx [x] x := ⟨by simp, fun y hy => by simp at hy; omega⟩
theorem isMn.one (x : Int) : isMn [x] x := ⟨by simp, fun y hy => by simp at hy; omega⟩
theorem isMx.snoc {o : List Int} {m : Int} (h : isMx o m) (y : Int) : isMx (o ++ [y]) (max m y) := by
  refine ⟨?_, fun x hx => ?_⟩
  · rcases Int.le_total m y with h1 | h1
    · rw [Int.max_eq_right h1]; simp
    · rw [Int.max_eq_left h1]; exact List.mem_append.2 (.inl h.1)
  · rcases List.mem_append.1 hx with hx | hx
    · have := h.2 x hx; omega
    · simp at hx; omega
theorem isMn.snoc {o : List Int} {m : Int} (h : isMn o m) (y : Int) : isMn (o ++ [y]) (min m y) := by
  refine ⟨?_, fun x hx => ?_⟩
  · rcases Int.le_total m y with h1 | h1
    · rw [Int.min_eq_left h1]; exact List.mem_append.2 (.inl h.1)
    · rw [Int.min_eq_right h1]; simp
  · rcases List.mem_append.1 hx with hx | hx
    · have := h.2 x hx; omega
    · simp at hx; omega
theorem take_more {o : List Int} {i : Nat} {y : Int} (hy : o[i]? = some y) : o.take (i + 1) = o.take i ++ [y] := by rw [List.take_add_one, hy]; rfl
/-- what Max, Min answer -/
def MxR (o : List Int) (e : Ending) : Prop := ∃ m, e = .returned (.int .i64 m) ∧ isMx o m
def MnR (o : List Int) (e : Ending) : Prop := ∃ m, e = .returned (.int .i64 m) ∧ isMn o m
set_option maxRecDepth 100000 in
set_option maxHeartbeats 1000000 in
theorem max29 (w : World) (u : Value) (o : List Int) (h : Ns w u o) (h1 : 1 ≤ o.length) (h2 : o.length ≤ 16) : Calls Tryz.prog 38 #[u] w fun e w' => MxR o e ∧ w' = w := by
  obtain ⟨a, cap, rfl, _, _⟩ := id h
  obtain ⟨N, eN⟩ : ∃ N, o.length = N := ⟨_, rfl⟩
  obtain ⟨x0, hx0⟩ : ∃ x, o[0]? = some x := ⟨_, List.getElem?_eq_getElem (by omega)⟩
  obtain ⟨b, rfl, c0⟩ := h.at_ hx0
  have c0' : w.cell? b = some (.int .i64 x0) := by simpa [Addr.add] using c0
  have HN := hide (And.intro h (And.intro eN hx0))
  rw [eN] at h1 h2 ⊢
  have hNI : (N : Int) ≤ 16 := by omega
  have hN1 : (1 : Int) ≤ (N : Int) := by omega
  have hN0 : (0 : Int) < (N : Int) := by omega
  have dN : decide ((N : Int) < 1) = false := by simp; omega
  clear h eN hx0
  go_enter Tryz.func38, Tryz.ntmps38
  go_wp2
  clear c0 c0'
  go_loopw [3, 4] (fun mv iv wr => ∃ (i : Nat) (m : Int), iv = .int .i64 (i : Int) ∧ mv = .int .i64 m ∧ 1 ≤ i ∧ i ≤ N ∧ wr = w ∧ Hid (isMx (o.take i) m)) (fun _ iv _ => N - (intOf iv).toNat)
  case atStart => exact ⟨1, x0, rfl, rfl, Nat.le_refl _, h1, rfl, hide (by rw [take_more (i := 0) HN.out.2.2]; exact isMx.one x0)⟩
  case round =>
    obtain ⟨i, m, rfl, rfl, hi1, hi, hw, hI⟩ := hrel
    obtain rfl := hw
    have hi0 : (0 : Int) ≤ (i : Int) := by omega
    by_cases hlt : i < N
    · have hltI : (i : Int) < (N : Int) := by omega
      obtain ⟨y, hy⟩ : ∃ y, o[i]? = some y := ⟨_, List.getElem?_eq_getElem (by rw [HN.out.2.1]; exact hlt)⟩
      obtain ⟨b', e', hc⟩ := HN.out.1.at_ hy
      simp only [Option.some.injEq] at e'
      subst e'
      have HY := hide hy
      have eti : (i : Int).toNat = i := by omega
      clear hy
      go_wp2
      refine ⟨⟨i + 1, max m y, by go_num, by congr 1 <;> (split <;> omega), by omega, by omega, trivial, hide ?_⟩, by simp [intOf]; omega⟩
      rw [take_more HY.out]
      exact hI.out.snoc y
    · have hge : ¬ (i : Int) < (N : Int) := by omega
      have HE : Hid (isMx o m) := hide (by
        have h := hI.out
        rw [List.take_of_length_le (by have := HN.out.2.1; omega)] at h
        exact h)
      go_wp2
      go_ret
      exact ⟨⟨_, rfl, HE.out⟩, rfl⟩
set_option maxRecDepth 100000 in
set_option maxHeartbeats 1000000 in
theorem min54 (w : World) (u : Value) (o : List Int) (h : Ns w u o) (h1 : 1 ≤ o.length) (h2 : o.length ≤ 16) : Calls Tryz.prog 62 #[u] w fun e w' => MnR o e ∧ w' = w := by
  obtain ⟨a, cap, rfl, _, _⟩ := id h
  obtain ⟨N, eN⟩ : ∃ N, o.length = N := ⟨_, rfl⟩
  obtain ⟨x0, hx0⟩ : ∃ x, o[0]? = some x := ⟨_, List.getElem?_eq_getElem (by omega)⟩
  obtain ⟨b, rfl, c0⟩ := h.at_ hx0
  have c0' : w.cell? b = some (.int .i64 x0) := by simpa [Addr.add] using c0
  have HN := hide (And.intro h (And.intro eN hx0))
  rw [eN] at h1 h2 ⊢
  have hNI : (N : Int) ≤ 16 := by omega
  have hN1 : (1 : Int) ≤ (N : Int) := by omega
  have hN0 : (0 : Int) < (N : Int) := by omega
  have dN : decide ((N : Int) < 1) = false := by simp; omega
  clear h eN hx0
  go_enter Tryz.func62, Tryz.ntmps62
  go_wp2
  clear c0 c0'
  go_loopw [3, 4] (fun mv iv wr => ∃ (i : Nat) (m : Int), iv = .int .i64 (i : Int) ∧ mv = .int .i64 m ∧ 1 ≤ i ∧ i ≤ N ∧ wr = w ∧ Hid (isMn (o.take i) m)) (fun _ iv _ => N - (intOf iv).toNat)
  case atStart => exact ⟨1, x0, rfl, rfl, Nat.le_refl _, h1, rfl, hide (by rw [take_more (i := 0) HN.out.2.2]; exact isMn.one x0)⟩
  case round =>
    obtain ⟨i, m, rfl, rfl, hi1, hi, hw, hI⟩ := hrel
    obtain rfl := hw
    have hi0 : (0 : Int) ≤ (i : Int) := by omega
    by_cases hlt : i < N
    · have hltI : (i : Int) < (N : Int) := by omega
      obtain ⟨y, hy⟩ : ∃ y, o[i]? = some y := ⟨_, List.getElem?_eq_getElem (by rw [HN.out.2.1]; exact hlt)⟩
      obtain ⟨b', e', hc⟩ := HN.out.1.at_ hy
      simp only [Option.some.injEq] at e'
      subst e'
      have HY := hide hy
      have eti : (i : Int).toNat = i := by omega
      clear hy
      go_wp2
      refine ⟨⟨i + 1, min m y, by go_num, by congr 1 <;> (split <;> omega), by omega, by omega, trivial, hide ?_⟩, by simp [intOf]; omega⟩
      rw [take_more HY.out]
      exact hI.out.snoc y
    · have hge : ¬ (i : Int) < (N : Int) := by omega
      have HE : Hid (isMn o m) := hide (by
        have h := hI.out
        rw [List.take_of_length_le (by have := HN.out.2.1; omega)] at h
        exact h)
      go_wp2
      go_ret
      exact ⟨⟨_, rfl, HE.out⟩, rfl⟩
end Go.Proofs.YtbifmcadllilhaaGreat.Pn
namespace Go.Proofs.YtbifmcadllilhaaGreat.Pn
open Go.RowKit
set_option linter.unusedVariables false
/-- loads that may be -/
def MBL (o : List Int) : Prop := 1 ≤ o.length ∧ o.length ≤ 16 ∧ ∀ x ∈ o, 0 ≤ x ∧ x ≤ 1073741824
set_option maxHeartbeats 1000000 in
theorem hosts41 (w : World) (n : Int) : Calls Tryz.prog 25 #[.int .i64 n] w fun e w' => Ans (1 ≤ n ∧ n ≤ 16) e ∧ w' = w := by
  by_cases h1 : 1 ≤ n
  · have d1 : decide (n ≥ 1) = true := by simpa using h1
    have H := hide h1
    clear h1
    go_enter Tryz.func25, Tryz.ntmps25
    go_wp2
    go_ret
    exact ⟨⟨_, rfl, by have := H.out; simp [this]⟩, rfl⟩
  · have d1 : decide (n ≥ 1) = false := by simpa using h1
    have H := hide h1
    clear h1
    go_enter Tryz.func25, Tryz.ntmps25
    go_wp2
    go_ret
    exact ⟨⟨_, rfl, by simp; have := H.out; omega⟩, rfl⟩
set_option maxRecDepth 100000 in
set_option maxHeartbeats 1000000 in
theorem mayBe27 (w : World) (u : Value) (o : List Int) (h : Ns w u o) (hN : o.length ≤ 140737488351232) : Calls Tryz.prog 36 #[u] w fun e w' => Ans (MBL o) e ∧ w' = w := by
  obtain ⟨a, cap, rfl, _, _⟩ := id h
  obtain ⟨N, eN⟩ : ∃ N, o.length = N := ⟨_, rfl⟩
  have HO := hosts41 w (N : Int)
  have HN := hide (And.intro h eN)
  rw [eN] at hN ⊢
  clear h eN
  go_enter Tryz.func36, Tryz.ntmps36
  go_wp2_with fail
  refine HO.mono ?_; rintro e w1 ⟨⟨b1, rfl, hb1⟩, hw⟩
  obtain rfl := hw
  have HB := hide hb1
  clear HO hb1
  cases b1 with
  | false =>
    go_wp2
    go_ret
    refine ⟨⟨false, rfl, ?_⟩, rfl⟩
    simp
    rintro ⟨q1, q2, _⟩
    have := HB.out.2 ⟨by have := HN.out.2; omega, by have := HN.out.2; omega⟩
    simp at this
  | true =>
  have hr : 1 ≤ o.length ∧ o.length ≤ 16 := by
    have := HB.out.1 (by simp)
    have := HN.out.2
    omega
  have MI := min54 w1 (.slice a N cap) o (by have q := HN.out.1; rw [HN.out.2] at q; exact q) hr.1 hr.2
  have MA := max29 w1 (.slice a N cap) o (by have q := HN.out.1; rw [HN.out.2] at q; exact q) hr.1 hr.2
  have HR := hide hr
  clear hr
  go_wp2_with fail
  refine MI.mono ?_; rintro e w2 ⟨⟨m, rfl, hm⟩, hw⟩
  obtain rfl := hw
  have HM := hide hm
  clear MI hm
  by_cases h0 : 0 ≤ m
  · have d0 : decide (m ≥ 0) = true := by simpa using h0
    have H0 := hide h0
    clear h0
    go_wp2_with fail
    refine MA.mono ?_; rintro e w3 ⟨⟨M, rfl, hM⟩, hw⟩
    obtain rfl := hw
    have HX := hide hM
    clear MA hM
    go_wp2
    go_ret
    refine ⟨⟨_, rfl, ?_⟩, rfl⟩
    simp only [decide_eq_true_eq]
    refine ⟨fun q => ⟨HR.out.1, HR.out.2, fun x hx => ?_⟩, fun q => (q.2.2 M HX.out.1).2⟩
    have := HM.out.2 x hx
    have := HX.out.2 x hx
    have := H0.out
    omega
  · have d0 : decide (m ≥ 0) = false := by simpa using h0
    have H0 := hide h0
    clear h0 MA
    go_wp2
    go_ret
    refine ⟨⟨false, rfl, ?_⟩, rfl⟩
    simp
    intro q
    have q1 := (q.2.2 m HM.out.1).1
    have := H0.out
    omega
theorem sum_snoc (o : List Int) (y : Int) : (o ++ [y]).sum = o.sum + y := by simp
theorem sum_bound {o : List Int} : ∀ (h : ∀ x ∈ o, 0 ≤ x ∧ x ≤ 1073741824), 0 ≤ o.sum ∧ o.sum ≤ (o.length : Int) * 1073741824 := by
  induction o with
  | nil => intro _; simp
  | cons x o ih =>
    intro h
    have h1 := h x (by simp)
    have h2 := ih (fun y hy => h y (by simp [hy]))
    simp only [List.sum_cons, List.length_cons]
    omega
theorem sum_take {o : List Int} (h : ∀ x ∈ o, 0 ≤ x ∧ x ≤ 1073741824) (h2 : o.length ≤ 16) (i : Nat) : 0 ≤ (o.take i).sum ∧ (o.take i).sum ≤ 17179869184 := by
  have := sum_bound (o := o.take i) (fun x hx => h x (List.mem_of_mem_take hx))
  rw [List.length_take] at this
  omega
set_option maxRecDepth 100000 in
set_option maxHeartbeats 1000000 in
theorem total28 (w : World) (u : Value) (o : List Int) (h : Ns w u o) (hm : MBL o) : Calls Tryz.prog 37 #[u] w fun e w' => e = .returned (.int .i64 o.sum) ∧ w' = w := by
  obtain ⟨a, cap, rfl, _, _⟩ := id h
  obtain ⟨N, eN⟩ : ∃ N, o.length = N := ⟨_, rfl⟩
  have HN := hide (And.intro h (And.intro eN hm))
  have hNI : (N : Int) ≤ 16 := by have := hm.2.1; omega
  rw [eN]
  clear h eN hm
  go_enter Tryz.func37, Tryz.ntmps37
  go_wp2
  go_loopw [3, 8] (fun sv iv wr => ∃ (i : Nat) (s : Int), iv = .int .i64 (i : Int) ∧ sv = .int .i64 s ∧ i ≤ N ∧ wr = w ∧ Hid (s = (o.take i).sum)) (fun _ iv _ => N - (intOf iv).toNat)
  case atStart => exact ⟨0, 0, rfl, rfl, Nat.zero_le _, rfl, hide (by simp)⟩
  case round =>
    obtain ⟨i, s, rfl, rfl, hi, hw, hI⟩ := hrel
    obtain rfl := hw
    have hi0 : (0 : Int) ≤ (i : Int) := by omega
    by_cases hlt : i < N
    · have hltI : (i : Int) < (N : Int) := by omega
      obtain ⟨y, hy⟩ : ∃ y, o[i]? = some y := ⟨_, List.getElem?_eq_getElem (by rw [HN.out.2.1]; exact hlt)⟩
      obtain ⟨b', e', hc⟩ := HN.out.1.at_ hy
      subst e'
      have hs := sum_take HN.out.2.2.2.2 HN.out.2.2.2.1 i
      have hs2 := sum_take HN.out.2.2.2.2 HN.out.2.2.2.1 (i + 1)
      rw [take_more hy, sum_snoc] at hs2
      rw [← hI.out] at hs hs2
      have ew : IntKind.i64.wrap (s + y) = s + y := by rw [IntKind.wrap_i64]; omega
      have ew2 : wrap64 (s + y) = s + y := by unfold wrap64; omega
      have HY := hide hy
      have eti : (i : Int).toNat = i := by omega
      clear hy hs hs2
      go_wp2
      refine ⟨⟨i + 1, s + y, by go_num, by first | rfl | (congr 1), by omega, trivial, hide ?_⟩, by simp [intOf]; omega⟩
      rw [take_more HY.out, sum_snoc, hI.out]
    · have hge : ¬ (i : Int) < (N : Int) := by omega
      have HE : Hid (s = o.sum) := hide (by
        have h := hI.out
        rw [List.take_of_length_le (by have := HN.out.2.1; omega)] at h
        exact h)
      go_wp2
      go_ret
      have q := HE.out
      exact ⟨by first | exact q | (simp [q]), rfl⟩
/-- what Total answers -/
def TtR (o : List Int) (e : Ending) : Prop := ∃ t, e = .returned (.int .i64 t) ∧ (MBL o ∧ t = o.sum ∨ ¬ MBL o ∧ t = -1)
end Go.Proofs.YtbifmcadllilhaaGreat.Pn
