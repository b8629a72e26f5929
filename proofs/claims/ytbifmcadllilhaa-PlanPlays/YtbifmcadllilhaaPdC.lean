import Derived.Test.YtbifmcadllilhaaLdH
import Derived.Test.YtbifmcadllilhaaPtW
namespace Go.Proofs.Ytbifmcadllilhaa.Rg
open Go.RowKit Go.Shelf Go.Sort
open Go.Proofs.Ytbifmcadllilhaa.It
set_option linter.unusedVariables false
theorem Kp.ofPn {a b : World} (h : Pn.Kp Pn.Nu a b) : Kp Nu a b := ⟨h.os, h.tape, h.output, h.size, fun k hk _ => h.block k hk (fun h => h)⟩
theorem Kp.toPn {a b : World} (h : Kp Nu a b) : Pn.Kp Pn.Nu a b := ⟨h.os, h.tape, h.output, h.size, fun k hk _ => h.block k hk (fun h => h)⟩
theorem kp_dn (w : World) (n : Nat) : Kp Nu w (w.drewN n) := ⟨rfl, rfl, rfl, Nat.le_refl _, fun _ _ _ => rfl⟩
theorem kp_drawn (w : World) : Kp Nu w w.drew := ⟨rfl, rfl, rfl, Nat.le_refl _, fun _ _ _ => rfl⟩
/-- keys in memory -/
def Us (w : World) (u : Value) (o : List Int) : Prop := ∃ a cap, u = .slice a o.length cap ∧ o.length ≤ cap ∧ ∀ (j : Nat) x, o[j]? = some x → ∃ b : Addr, a = some b ∧ w.cell? (b.add j) = some (.int .u64 x)
theorem Us.nu {w w' : World} {u : Value} {o : List Int} (h : Us w u o) (k : Kp Nu w w') : Us w' u o := by
  obtain ⟨a, cap, h0, h2, h1⟩ := h
  refine ⟨a, cap, h0, h2, fun j x hx => ?_⟩
  obtain ⟨b, hb, hc⟩ := h1 j x hx
  exact ⟨b, hb, (World.cell?_of_block (k.block _ (World.block_lt_of_cell? w _ hc) (fun h => h))).trans hc⟩
theorem Us.at_ {w : World} {a : Option Addr} {n cap : Nat} {o : List Int} (h : Us w (.slice a n cap) o) {j : Nat} {x : Int} (hx : o[j]? = some x) : ∃ b : Addr, a = some b ∧ w.cell? (b.add j) = some (.int .u64 x) := by
  obtain ⟨a', cap', h0, h2, h1⟩ := h
  simp only [Value.slice.injEq] at h0
  obtain ⟨rfl, _, _⟩ := h0
  exact h1 j x hx
theorem Us.len {w : World} {a : Option Addr} {n cap : Nat} {o : List Int} (h : Us w (.slice a n cap) o) : n = o.length := by
  obtain ⟨a', cap', h0, h2, h1⟩ := h
  simp only [Value.slice.injEq] at h0
  exact h0.2.1
theorem Us.cap {w : World} {a : Option Addr} {n cap : Nat} {o : List Int} (h : Us w (.slice a n cap) o) : n ≤ cap := by
  obtain ⟨a', cap', h0, h2, h1⟩ := h
  simp only [Value.slice.injEq] at h0
  omega
/-- keys as cells -/
def ucs (o : List Int) : List Value := o.map (Value.int .u64)
theorem ucs_len (o : List Int) : (ucs o).length = o.length := by simp [ucs]
theorem info56z : (Try.prog.info? 56).map (fun i => (i.zero, i.size, i.bytes)) = some (some (.int .u64 0), 1, 8) := by kernel_rfl
theorem Us.of_own {w : World} {B : Nat} {v : Value} {o : List Int} (h : w.ownsRow B 56 1 v o.length (ucs o)) : Us w v o := by
  rcases h.2 with ⟨rfl, h0⟩ | ⟨g, cap, cur, rfl, hb', hg, h1, h2, h3, h4⟩
  · obtain rfl : o = [] := List.eq_nil_of_length_eq_zero h0
    exact ⟨none, 0, rfl, by simp, fun j x hx => by simp at hx⟩
  · refine ⟨some ⟨g, 0, none⟩, cap, rfl, by omega, fun j x hx => ⟨_, rfl, ?_⟩⟩
    have hj : (ucs o)[j]? = some (.int .u64 x) := by simp [ucs, hx]
    rw [← h4] at hj
    have hj2 : j < o.length * 1 := by
      have := (List.getElem?_eq_some_iff.1 hj).1
      rw [List.length_take] at this
      omega
    rw [List.getElem?_take_of_lt hj2] at hj
    rw [Addr.add_lit]
    simpa [World.cell?, hg] using hj
/-- keys appended to none: a row of one's own -/
theorem append_us {w : World} {ops : Array Oper} {rest : List Oper} {op : Oper} {a : Act} {Q : Exit → Act → World → Prop} (hgd : op.guard = none) (s x : Operand)
    (ho : op.op = .call { callee := .builtin .append, args := #[s, x], argTypes := #[45, 45] }) (base : Nat) (va : Option Addr) (vc : Nat) (o : List Int) (hl : o.length * 8 ≤ 140737488351232)
    (hs : a.eval s = .slice none 0 0) (hx : a.eval x = .slice va o.length vc) (hO : Us w (.slice va o.length vc) o) (hnil : va = none → vc = 0) (hbase : base ≤ w.heap.size)
    (h : ∀ oa oc w', w'.ownsRow base 56 1 (.slice oa o.length oc) o.length (ucs o) → Kp Nu w w' → wpList Try.prog ops Q rest (a.put op.dst (.slice oa o.length oc)) w') : wpList Try.prog ops Q (op :: rest) a w := by
  obtain ⟨i0, hi0, hz0, hz1, hz2⟩ := info_parts info56z
  rcases va with _ | ad
  · have hM0 : o = [] := by
      cases o with
      | nil => rfl
      | cons x o => obtain ⟨b, hb, _⟩ := hO.at_ (j := 0) rfl; cases hb
    have hvc := hnil rfl
    subst hM0
    subst hvc
    exact wpList_append_own_none hgd s x 45 ho base 56 i0 1 Try.underlying45 hi0 _ 0 [] hs (World.ownsRow_nil _ _ _ _) hx (h none 0 _ (World.ownsRow_nil _ _ _ _) (Kp.refl _ _))
  · refine wpList_append_own _ hgd s x 45 ho base 56 i0 _ 1 8 Try.underlying45 hi0 hz0 hz1 hz2 rfl (by decide) (.slice none 0 0) 0 [] hs (World.ownsRow_nil _ _ _ _) ad o.length vc (ucs o) hx (by simp [ucs_len]) (fun j x hj => ?_) (fun u hu => ?_) (by unfold maxLen; omega) (by omega) hbase ?_
    · simp only [ucs, List.getElem?_map, Option.map_eq_some_iff] at hj
      obtain ⟨y, hy, rfl⟩ := hj
      obtain ⟨b, hb, hc⟩ := hO.at_ hy
      cases hb
      exact hc
    · obtain ⟨x, _, rfl⟩ := List.mem_map.1 hu
      rfl
    · intro v' w' h1 h2 _
      rw [Nat.zero_add, List.nil_append] at h1
      obtain ⟨oa, oc, rfl, _, _⟩ := id (Us.of_own h1)
      exact h oa oc w' h1 ((Kp.of_grown h2).mono (fun i hi e => by simp [Value.ownBlock] at e))
set_option maxRecDepth 100000 in
set_option maxHeartbeats 1000000 in
theorem same21 (w : World) (u v : Value) (o : List Int) (hu : Us w u o) (hv : Us w v o) (hN : o.length ≤ 140737488351232) : Calls Try.prog 21 #[u, v] w fun e w' => e = .returned (.bool true) ∧ Kp Nu w w' := by
  obtain ⟨a1, c1, rfl, _, _⟩ := id hu
  obtain ⟨a2, c2, rfl, _, _⟩ := id hv
  obtain ⟨N, eN⟩ : ∃ N, o.length = N := ⟨_, rfl⟩
  have HU := hide (And.intro hu (And.intro hv eN))
  rw [eN] at hN ⊢
  have hNI : (N : Int) ≤ 140737488351232 := by omega
  have hnn : ((N : Int) != (N : Int)) = false := by simp
  clear hu hv eN hN
  go_enter Try.func21, Try.ntmps21
  go_wp2
  go_loopw [5] (fun iv wr => ∃ i : Nat, iv = .int .i64 (i : Int) ∧ i ≤ N ∧ Hid (Kp Nu w wr)) (fun iv _ => N - (intOf iv).toNat)
  case atStart => exact ⟨0, rfl, Nat.zero_le _, hide (Kp.refl _ _)⟩
  case round =>
    obtain ⟨i, rfl, hi, hk⟩ := hrel
    have hi0 : (0 : Int) ≤ (i : Int) := by omega
    by_cases hlt : i < N
    · have hltI : (i : Int) < (N : Int) := by omega
      obtain ⟨x, hx⟩ : ∃ x, o[i]? = some x := ⟨_, List.getElem?_eq_getElem (by rw [HU.out.2.2]; exact hlt)⟩
      obtain ⟨b1, rfl, k1⟩ := (HU.out.1.nu hk.out).at_ hx
      obtain ⟨b2, rfl, k2⟩ := (HU.out.2.1.nu hk.out).at_ hx
      have eti : (i : Int).toNat = i := by omega
      have hne : (x != x) = false := by simp
      clear hx
      go_wp2_with fail
      go_quiet (fail)
      go_wp2
      exact ⟨⟨i + 1, by go_num, by omega, hide (hk.out.andNu (kp_dn _ _))⟩, by simp [intOf]; omega⟩
    · have hge : ¬ (i : Int) < (N : Int) := by omega
      go_wp2
      go_ret
      exact ⟨rfl, hk.out⟩
/-- each above the one ahead of it -/
def Ris (o : List Int) : Prop := ∀ (i : Nat) x y, o[i]? = some x → o[i + 1]? = some y → x < y
set_option maxRecDepth 100000 in
set_option maxHeartbeats 1000000 in
theorem rise68 (w : World) (u : Value) (o : List Int) (hu : Us w u o) (hN : o.length ≤ 140737488351232) : Calls Try.prog 68 #[u] w fun e w' => Pn.Ans (Ris o) e ∧ Kp Nu w w' := by
  obtain ⟨a1, c1, rfl, _, _⟩ := id hu
  obtain ⟨N, eN⟩ : ∃ N, o.length = N := ⟨_, rfl⟩
  have HU := hide (And.intro hu eN)
  rw [eN] at hN ⊢
  have hNI : (N : Int) ≤ 140737488351232 := by omega
  clear hu eN hN
  go_enter Try.func68, Try.ntmps68
  go_wp2
  go_loopw [3] (fun iv wr => ∃ i : Nat, iv = .int .i64 (i : Int) ∧ 1 ≤ i ∧ (i ≤ N ∨ i = 1) ∧ Hid ((∀ (j : Nat) x y, j + 1 < i → o[j]? = some x → o[j + 1]? = some y → x < y) ∧ Kp Nu w wr)) (fun iv _ => N - (intOf iv).toNat)
  case atStart => exact ⟨1, rfl, Nat.le_refl _, .inr rfl, hide ⟨fun j x y h => by omega, Kp.refl _ _⟩⟩
  case round =>
    obtain ⟨i, rfl, hi1, hi, hk⟩ := hrel
    have hi0 : (0 : Int) ≤ (i : Int) := by omega
    by_cases hlt : i < N
    · have hltI : (i : Int) < (N : Int) := by omega
      obtain ⟨m, hm⟩ : ∃ m, i = m + 1 := ⟨i - 1, by omega⟩
      obtain ⟨x, hx⟩ : ∃ x, o[i]? = some x := ⟨_, List.getElem?_eq_getElem (by rw [HU.out.2]; exact hlt)⟩
      obtain ⟨y, hy⟩ : ∃ y, o[m]? = some y := ⟨_, List.getElem?_eq_getElem (by rw [HU.out.2]; omega)⟩
      obtain ⟨b1, rfl, k1⟩ := (HU.out.1.nu hk.out.2).at_ hx
      obtain ⟨b2, e2, k2⟩ := (HU.out.1.nu hk.out.2).at_ hy
      cases e2
      have HX := hide (And.intro hx (And.intro hy hm))
      have eti : (i : Int).toNat = i := by omega
      have ew : IntKind.i64.wrap ((i : Int) - 1) = (m : Int) := by rw [IntKind.wrap_i64]; omega
      have etm : (m : Int).toNat = m := by omega
      have hm0 : 0 ≤ (m : Int) := by omega
      have hm1 : (m : Int) < (N : Int) := by omega
      clear hx hy hm
      by_cases hle : x ≤ y
      · have HL := hide hle
        go_wp2_with fail
        go_quiet (fail)
        go_wp2
        go_ret
        refine ⟨⟨false, rfl, ?_⟩, hk.out.2.andNu (kp_dn _ _)⟩
        simp
        intro hr
        have hX1 := HX.out.1
        rw [HX.out.2.2] at hX1
        have := hr m y x HX.out.2.1 hX1
        have := HL.out
        omega
      · have HL := hide hle
        go_wp2_with fail
        go_quiet (fail)
        go_wp2
        refine ⟨⟨i + 1, by go_num, by omega, .inl (by omega), hide ⟨fun j x' y' hj hx' hy' => ?_, hk.out.2.andNu (kp_dn _ _)⟩⟩, by simp [intOf]; omega⟩
        have hm := HX.out.2.2
        rcases Nat.lt_or_ge (j + 1) i with h | h
        · exact hk.out.1 j x' y' h hx' hy'
        · obtain rfl : j = m := by omega
          have e1 := HX.out.1
          have e2 := HX.out.2.1
          rw [hm] at e1
          rw [hx'] at e2
          rw [hy'] at e1
          cases e1
          cases e2
          have := HL.out
          omega
    · have hge : ¬ (i : Int) < (N : Int) := by omega
      go_wp2
      go_ret
      refine ⟨⟨true, rfl, ?_⟩, hk.out.2⟩
      simp
      intro j x y hx hy
      have h1 := (List.getElem?_eq_some_iff.1 hy).1
      rw [HU.out.2] at h1
      exact hk.out.1 j x y (by omega) hx hy
end Go.Proofs.Ytbifmcadllilhaa.Rg
namespace Go.Proofs.Ytbifmcadllilhaa.Pn
open Go.RowKit
set_option linter.unusedVariables false
/-- how many owners are this host -/
def cnt (os : List Int) (h : Nat) : Int := ((os.filter (fun x => x == (h : Int))).length : Int)
theorem cnt_snoc (os : List Int) (x : Int) (h : Nat) : cnt (os ++ [x]) h = cnt os h + (if x = (h : Int) then 1 else 0) := by
  unfold cnt
  rw [List.filter_append, List.length_append]
  by_cases e : x = (h : Int)
  · simp [e]
  · have : (x == (h : Int)) = false := by simpa using e
    simp [e, this]
theorem cnt_le (os : List Int) (h : Nat) : 0 ≤ cnt os h ∧ cnt os h ≤ (os.length : Int) := by
  unfold cnt
  have := List.length_filter_le (fun x => x == (h : Int)) os
  omega
/-- the loads of the hosts -/
def lds (n : Nat) (os : List Int) : List Int := (List.range n).map (cnt os)
theorem lds_len (n : Nat) (os : List Int) : (lds n os).length = n := by simp [lds]
theorem hq_zero {w1 : World} {base g N : Nat} (h : w1.ownsRow base 3 1 (.slice (some ⟨g, 0, none⟩) N N) N (madeCells (Value.int .i64 0).cells (N * 1)).toList) : Hq w1 g N (fun q => q < N) (fun _ => 0) := by
  rcases h.2 with ⟨e, _⟩ | ⟨g', cap, cur, e, hb', hg, h1, h2, h3, h4⟩
  · cases e
  · cases e
    refine ⟨cur, hg, by omega, fun q hq => ?_⟩
    have hj : (madeCells (Value.int .i64 0).cells (N * 1)).toList[q]? = some (.int .i64 0) := by simp [madeCells, Value.cells, hq, Nat.mod_one]
    rw [← h4, List.getElem?_take_of_lt (by omega)] at hj
    simpa using hj
theorem Hq.ext {w : World} {g N : Nat} {D : Nat → Prop} {f f' : Nat → Int} (h : Hq w g N D f) (e : ∀ q, D q → f q = f' q) : Hq w g N D f' := by
  obtain ⟨cur, p1, p2, p3⟩ := h.mem
  exact ⟨cur, p1, p2, fun q hq => by rw [p3 q hq, e q hq]⟩
set_option maxRecDepth 100000 in
set_option maxHeartbeats 2000000 in
theorem counted46 (w : World) (n : Nat) (u : Value) (os : List Int) (hu : Ns w u os) (h1 : n ≤ 16) (h0 : ∀ x ∈ os, 0 ≤ x) (hl : os.length ≤ 140737488351232) :
    Calls Try.prog 46 #[.int .i64 (n : Int), u] w fun e w' => ∃ g, e = .returned (.slice (some ⟨g, 0, none⟩) n n) ∧ w'.ownsRow w.heap.size 3 1 (.slice (some ⟨g, 0, none⟩) n n) n (ics (lds n os)) ∧ Kp Nu w w' := by
  have mixed : Try.prog.follows .mixedOrders = true := by kernel_rfl
  obtain ⟨a1, c1, rfl, _, _⟩ := id hu
  obtain ⟨N, eN⟩ : ∃ N, os.length = N := ⟨_, rfl⟩
  have HU := hide (And.intro hu (And.intro eN h0))
  rw [eN] at hl ⊢
  have hNI : (N : Int) ≤ 140737488351232 := by omega
  have hnI : (n : Int) ≤ 16 := by omega
  clear hu eN hl h0
  obtain ⟨z0, hzi, hz0, hz1, hz2⟩ := info_parts info3z
  go_enter Try.func46, Try.ntmps46
  go_wp2_with (at_make; refine wpList_make_full _ rfl _ _ 22 rfl w.heap.size 3 z0 _ 1 Try.underlying22 hzi hz0 hz1 _ _ _ _ n rfl rfl rfl rfl (by rw [hz2]; omega) (by unfold maxLen; omega) (Nat.le_refl _) ?_; intro w4 hrow4 hgr4)
  have H4 := hide (And.intro (hq_zero hrow4) ((Kp.of_grown hgr4).mono (T := Nu) (fun _ _ e => by cases e)))
  clear hrow4 hgr4
  go_wp2
  go_loopw [6] (fun iv wr => ∃ i : Nat, iv = .int .i64 (i : Int) ∧ i ≤ N ∧ Hid (Hq wr w.heap.size n (fun q => q < n) (cnt (os.take i)) ∧ Kp Nu w wr)) (fun iv _ => N - (intOf iv).toNat)
  case atStart => exact ⟨0, rfl, Nat.zero_le _, hide ⟨H4.out.1.ext (fun q _ => by simp [cnt]), H4.out.2⟩⟩
  case round =>
    obtain ⟨i, rfl, hi, hI⟩ := hrel
    have hi0 : (0 : Int) ≤ (i : Int) := by omega
    by_cases hlt : i < N
    · have hltI : (i : Int) < (N : Int) := by omega
      obtain ⟨x, hx⟩ : ∃ x, os[i]? = some x := ⟨_, List.getElem?_eq_getElem (by rw [HU.out.2.1]; exact hlt)⟩
      obtain ⟨b1, rfl, k1⟩ := (HU.out.1.nu hI.out.2).at_ hx
      have eti : (i : Int).toNat = i := by omega
      have hx0 : 0 ≤ x := HU.out.2.2 x (List.mem_of_getElem? hx)
      have htk : os.take (i + 1) = os.take i ++ [x] := by rw [List.take_add_one, hx]; rfl
      have HX := hide (And.intro hx htk)
      clear hx htk
      by_cases hxn : x < (n : Int)
      · obtain ⟨q, rfl⟩ : ∃ q : Nat, x = (q : Int) := ⟨x.toNat, by omega⟩
        have hqn : q < n := by omega
        have etq : (q : Int).toNat = q := by omega
        obtain ⟨c, hc⟩ : ∃ c, cnt (os.take i) q = c := ⟨_, rfl⟩
        have y1 := hI.out.1.at_ hqn
        rw [hc] at y1
        have hb := cnt_le (os.take i) q
        rw [hc] at hb
        have hb2 : (os.take i).length ≤ i := by rw [List.length_take]; omega
        have hb3 : c ≤ 140737488351232 := by omega
        have hb4 : 0 ≤ c := hb.1
        have ew : IntKind.i64.wrap (c + 1) = c + 1 := by rw [IntKind.wrap_i64]; omega
        have hf := hI.out.1.free q
        have HC := hide hc
        clear hc hb hb2
        go_wp2
        refine ⟨⟨i + 1, by go_num, by omega, hide ⟨?_, hI.out.2.andSet _ _ (.inl (Nat.le_refl _))⟩⟩, by simp [intOf]; omega⟩
        have e1 : c + 1 = cnt (os.take (i + 1)) q := by rw [HX.out.2, cnt_snoc, HC.out]; simp
        rw [e1]
        refine hI.out.1.set (f' := cnt (os.take (i + 1))) hqn (fun p hp => .inr hp) (fun p hp _ => ?_)
        rw [HX.out.2, cnt_snoc, if_neg (by omega), Int.add_zero]
      · go_wp2
        refine ⟨⟨i + 1, by go_num, by omega, hide ⟨hI.out.1.ext (fun p hp => ?_), hI.out.2⟩⟩, by simp [intOf]; omega⟩
        rw [HX.out.2, cnt_snoc, if_neg (by omega), Int.add_zero]
    · have hge : ¬ (i : Int) < (N : Int) := by omega
      obtain rfl : N = i := by omega
      go_wp2
      go_ret
      refine ⟨_, rfl, hI.out.1.own (fun q hq => hq) (Nat.le_refl _) h1 _ ?_, hI.out.2⟩
      rw [← HU.out.2.1, List.take_length]
      simp [ics, lds, Function.comp_def]
end Go.Proofs.Ytbifmcadllilhaa.Pn
namespace Go.Proofs.Ytbifmcadllilhaa.Rg
open Go.RowKit Go.Shelf Go.Sort
open Go.Proofs.Ytbifmcadllilhaa.It
set_option linter.unusedVariables false
theorem Ris.lt {o : List Int} (h : Ris o) : ∀ (d i : Nat) x y, o[i]? = some x → o[i + d + 1]? = some y → x < y
  | 0, i, x, y, hx, hy => h i x y hx hy
  | d + 1, i, x, y, hx, hy => by
    obtain ⟨z, hz⟩ : ∃ z, o[i + d + 1]? = some z := ⟨_, List.getElem?_eq_getElem (by have := (List.getElem?_eq_some_iff.1 hy).1; omega)⟩
    have h1 := Ris.lt h d i x z hx hz
    have h2 := h (i + d + 1) z y hz hy
    omega
theorem Ris.le {o : List Int} (h : Ris o) {i j : Nat} {x y : Int} (hij : i ≤ j) (hx : o[i]? = some x) (hy : o[j]? = some y) : x ≤ y := by
  rcases Nat.lt_or_ge i j with hl | hl
  · obtain ⟨d, rfl⟩ : ∃ d, j = i + d + 1 := ⟨j - i - 1, by omega⟩
    have := h.lt d i x y hx hy
    omega
  · obtain rfl : i = j := by omega
    rw [hx] at hy
    cases hy
    exact Int.le_refl _
theorem own_dn {w : World} {B e size n : Nat} {v : Value} {xs : List Value} (h : w.ownsRow B e size v n xs) (q : Nat) : (w.drewN q).ownsRow B e size v n xs := h
theorem box2 {w w1 : World} {b : Nat} {c : Array Value} {ty : TypeId} (h : w.heap[b]? = some (.cells c ty (0, 0))) (k : Kp Nu w w1) : w1.heap[b]? = some (.cells c ty (0, 0)) := (k.block b (blk_lt h) (fun h => h)).trans h
set_option maxRecDepth 100000 in
set_option maxHeartbeats 2000000 in
theorem owners45 (w : World) (lim : Int) (v : Value) (L : List Sg) (hv : Rs w v L) (tab : Tab L) (hL : L.length ≤ 8192) (u : Value) (ks : List Int) (hu : Us w u ks) (hr : Ris ks) (hk : ∀ x ∈ ks, 0 ≤ x ∧ x < 18446744073709551616) (hlen : ks.length * 8 ≤ 140737488351232) :
    Calls Try.prog 45 #[.agg #[.int .i64 lim, v], u] w fun e w' => ∃ oa oc, e = .returned (.slice oa ks.length oc) ∧ w'.ownsRow w.heap.size 3 1 (.slice oa ks.length oc) ks.length (Pn.ics (ks.map (ow L))) ∧ Kp Nu w w' := by
  have mixed : Try.prog.follows .mixedOrders = true := by kernel_rfl
  obtain ⟨i0, hiT, hz0, hz1, hz2⟩ := info_parts Pn.info3z
  obtain ⟨r, off, cpv, ev, hcell⟩ := id hv
  obtain ⟨a1, c1, rfl, _, _⟩ := id hu
  obtain ⟨N, eN⟩ : ∃ N, ks.length = N := ⟨_, rfl⟩
  obtain ⟨Z, eZ⟩ : ∃ Z, L.length = Z := ⟨_, rfl⟩
  have HU := hide (And.intro hu (And.intro hr (And.intro hk (And.intro eN (And.intro eZ tab)))))
  have HC := hide hcell
  rw [eZ] at ev hL
  rw [eN] at hlen ⊢
  subst ev
  have hb0 : (w.alloc (.cells #[.int .i64 lim, .slice (some ⟨r, off, none⟩) Z cpv] 76)).heap[w.heap.size]? = some (.cells #[.int .i64 lim, .slice (some ⟨r, off, none⟩) Z cpv] 76 (0, 0)) := heap_alloc_new w _
  have HB := hide hb0
  have HK0 := hide (Kp.alloc w (.cells #[.int .i64 lim, .slice (some ⟨r, off, none⟩) Z cpv] 76) Nu)
  have hNI : (N : Int) ≤ 17592186043904 := by omega
  have hZI : (Z : Int) ≤ 8192 := by omega
  clear hu hr hk tab hv hcell eN eZ hb0
  go_enter Try.func45, Try.ntmps45
  go_wp2
  go_loopw [5, 6, 7] (fun ov pv jv wr => ∃ (j p : Nat) (oa : Option Addr) (oc : Nat), ov = .slice oa j oc ∧ pv = .int .i64 (p : Int) ∧ jv = .int .i64 (j : Int) ∧ j ≤ N ∧ Hid ((∀ m x, j ≤ m → ks[m]? = some x → p ≤ plc L x) ∧ wr.ownsRow (w.heap.size + 1) 3 1 (.slice oa j oc) j (Pn.ics ((ks.take j).map (ow L))) ∧ Kp Nu (w.alloc (.cells #[.int .i64 lim, .slice (some ⟨r, off, none⟩) Z cpv] 76)) wr)) (fun _ _ jv _ => N - (intOf jv).toNat)
  case atStart => exact ⟨0, 0, none, 0, rfl, rfl, rfl, Nat.zero_le _, hide ⟨fun _ _ _ _ => Nat.zero_le _, World.ownsRow_nil _ _ _ _, Kp.refl _ _⟩⟩
  case round =>
    obtain ⟨j, p, oa, oc, rfl, rfl, rfl, hj, hI⟩ := hrel
    have hj0 : (0 : Int) ≤ (j : Int) := by omega
    obtain ⟨wl, rfl⟩ : ∃ wl : World, wl = wr := ⟨_, rfl⟩
    by_cases hlt : j < N
    · have hltI : (j : Int) < (N : Int) := by omega
      obtain ⟨x, hx⟩ : ∃ x, ks[j]? = some x := ⟨_, List.getElem?_eq_getElem (by rw [HU.out.2.2.2.1]; exact hlt)⟩
      have etj : (j : Int).toNat = j := by omega
      have hxr := HU.out.2.2.1 x (List.mem_of_getElem? hx)
      obtain ⟨s, hs, _, _, hsh, hpl⟩ := plc_facts HU.out.2.2.2.2.2.cov hxr.1 hxr.2
      have hpx := hI.out.1 j x (Nat.le_refl _) hx
      obtain ⟨PX, ePX⟩ : ∃ PX, plc L x = PX := ⟨_, rfl⟩
      rw [ePX] at hs hpl hpx
      rw [HU.out.2.2.2.2.1] at hpl
      have HX := hide (And.intro hx (And.intro ePX (And.intro hs hsh)))
      clear hx ePX hs hsh hxr
      go_wp2
      go_loopw [6] (fun pv wr => ∃ p : Nat, pv = .int .i64 (p : Int) ∧ p ≤ PX ∧ Hid (Kp Nu wl wr)) (fun pv _ => PX - (intOf pv).toNat)
      case atStart => exact ⟨p, rfl, hpx, hide (Kp.refl _ _)⟩
      case round =>
        clear hpx
        obtain ⟨p, rfl, hpx, hk2⟩ := hrel
        have hp0 : (0 : Int) ≤ (p : Int) := by omega
        have hpZ : (p : Int) < (Z : Int) := by omega
        have x1 : decide ((p : Int) < (Z : Int)) = true := by simpa using hpZ
        obtain ⟨t, ht⟩ : ∃ t, L[p]? = some t := ⟨_, List.getElem?_eq_getElem (by rw [HU.out.2.2.2.2.1]; omega)⟩
        have kk := hI.out.2.2.andNu hk2.out
        have kw := HK0.out.andNu kk
        obtain ⟨b1, e1, k1⟩ := (HU.out.1.nu kw).at_ HX.out.1
        subst e1
        obtain ⟨d0, d1, d2⟩ := HC.out p t ht
        replace d1 := cell_nu d1 kw
        replace d2 := cell_nu d2 kw
        obtain ⟨y0, y1⟩ := cell2' (box2 HB.out kk)
        have etp : (p : Int).toNat = p := by omega
        have hiff := plc_iff (k := x) HU.out.2.2.2.2.2.cov p t ht
        rw [HX.out.2.1] at hiff
        have HT := hide (And.intro ht kk)
        clear kk kw d0
        by_cases hlt2 : t.hi < x
        · have x2 : decide (t.hi < x) = true := by simpa using hlt2
          have hq : p + 1 ≤ PX := by omega
          clear hiff
          go_wp2_with fail
          go_quiet (fail)
          go_wp2
          exact ⟨⟨p + 1, by go_num, hq, hide (hk2.out.andNu (kp_dn _ _))⟩, by simp [intOf]; omega⟩
        · have x2 : decide (t.hi < x) = false := by simpa using hlt2
          obtain rfl : PX = p := by omega
          have hth : t.h = ow L x := by
            have e := HX.out.2.2.1
            rw [HT.out.1] at e
            cases e
            exact HX.out.2.2.2
          obtain ⟨h, eh⟩ : ∃ h, t.h = h := ⟨_, rfl⟩
          have HH := hide (And.intro hth eh)
          have hb := HU.out.2.2.2.2.2.hs t (List.mem_of_getElem? HT.out.1)
          rw [eh] at hb d2
          have hb1 := hb.1
          have hb2 := hb.2
          have ec : IntKind.i64.wrap h = h := by rw [IntKind.wrap_i64]; omega
          have hown0 := own_keep hI.out.2.1 (fun g hg => hk2.out.block g (own_lt hI.out.2.1 hg) (fun h => h))
          have HO := hide (And.intro hown0 (hI.out.2.2.andNu hk2.out))
          clear hiff hth eh hb hown0
          go_wp2_with fail
          go_quiet (fail)
          go_wp2_with (at_builtin; refine unhid ?_)
          refine wpList_append_lies _ rfl _ _ 22 rfl (w.heap.size + 1) 3 i0 _ 1 8 Try.underlying22 hiT hz0 hz1 hz2 rfl (by decide) (.slice oa j oc) j (Pn.ics ((ks.take j).map (ow L))) rfl ((own_dn HO.out.1 _).alloc _) ⟨wr.heap.size, 0, none⟩ 1 1 [.int .i64 h] (by first | rfl | (simp; done)) rfl (World.news_of_block (Pn.heap_new _ _)) (by simp [Value.oneCell']) (by decide) (by unfold maxLen; omega) (by omega) (by have := HO.out.2.size; simp at this ⊢; omega) _ rfl ?_
          intro g3 cap3 w3 hown3 hgrow3 hat3 hlt3
          have HF : Hid (w3.ownsRow (w.heap.size + 1) 3 1 (.slice (some ⟨g3, 0, none⟩) (j + 1) cap3) (j + 1) (Pn.ics ((ks.take (j + 1)).map (ow L))) ∧ Kp Nu (w.alloc (.cells #[.int .i64 lim, .slice (some ⟨r, off, none⟩) Z cpv] 76)) w3) := hide ⟨by
            rw [List.take_add_one, HX.out.1, Option.toList_some, List.map_append, List.map_cons, List.map_nil, Pn.ics_snoc, ← HH.out.1, HH.out.2]
            exact hown3, ((HO.out.2.andNu (kp_dn _ _)).andAlloc _).trans (Kp.of_grown hgrow3) (fun q hq e => by
              have := Pn.own_ge HO.out.1 e.symm
              simp at hq
              omega)⟩
          clear hown3 hgrow3 hat3 hlt3
          go_wp2
          refine ⟨⟨j + 1, PX, some ⟨g3, 0, none⟩, cap3, rfl, rfl, by go_num, by omega, hide ⟨fun m y hm hy => ?_, HF.out.1, HF.out.2⟩⟩, by simp [intOf]; omega⟩
          rw [← HX.out.2.1]
          exact plc_mono HU.out.2.2.2.2.2.cov (HU.out.2.1.le (by omega) HX.out.1 hy)
    · have hge : ¬ (j : Int) < (N : Int) := by omega
      obtain rfl : N = j := by omega
      go_wp2
      go_ret
      refine ⟨oa, oc, rfl, ?_, HK0.out.andNu hI.out.2.2⟩
      have q := own_base hI.out.2.1 (base' := w.heap.size) (by omega)
      rw [← HU.out.2.2.2.1, List.take_length] at q
      rw [HU.out.2.2.2.1] at q
      exact q
end Go.Proofs.Ytbifmcadllilhaa.Rg
