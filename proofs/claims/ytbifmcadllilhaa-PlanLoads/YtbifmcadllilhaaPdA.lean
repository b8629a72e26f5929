import Derived.Test.YtbifmcadllilhaaLdH
import Derived.Test.YtbifmcadllilhaaPtW
namespace Go.Proofs.Ytbifmcadllilhaa.Rg
open Go.RowKit Go.Shelf Go.Sort
open Go.Proofs.Ytbifmcadllilhaa.It
set_option linter.unusedVariables false
theorem Kp.ofPn {a b : World} (h : Pn.Kp Pn.Nu a b) : Kp Nu a b := ⟨h.os, h.tape, h.output, h.size, fun k hk _ => h.block k hk (fun h => h)⟩
theorem Kp.toPn {a b : World} (h : Kp Nu a b) : Pn.Kp Pn.Nu a b := ⟨h.os, h.tape, h.output, h.size, fun k hk _ => h.block k hk (fun h => h)⟩
theorem kp_dn (w : World) (n : Nat) : Kp Nu w (w.drewN n) := ⟨rfl, rfl, rfl, Nat.le_refl _, fun _ _ _ => rfl⟩
theorem kp_drawn (w : World) : Kp Nu w w.drew := ⟨rfl, rfl, rfl, Nat.le_refl _, fun _ _ _ => rfl⟩
/-- keys in memory -/
def Us (w : World) (u : Value) (o : List Int) : Prop := ∃ a cap, u = .slice a o.length cap ∧ o.length ≤ cap ∧ ∀ (j : Nat) x, o[j]? = some x → ∃ b : Addr, a = some b ∧ w.cell? (b.add j) = some (.int .u64 x)
theorem Us.nu {w w' : World} {u : Value} {o : List Int} (h : Us w u o) (k : Kp Nu w w') : Us w' u o := by
  obtain ⟨a, cap, h0, h2, h1⟩ := h
  refine ⟨a, cap, h0, h2, fun j x hx => ?_⟩
  obtain ⟨b, hb, hc⟩ := h1 j x hx
  exact ⟨b, hb, (World.cell?_of_block (k.block _ (World.block_lt_of_cell? w _ hc) (fun h => h))).trans hc⟩
theorem Us.at_ {w : World} {a : Option Addr} {n cap : Nat} {o : List Int} (h : Us w (.slice a n cap) o) {j : Nat} {x : Int} (hx : o[j]? = some x) : ∃ b : Addr, a = some b ∧ w.cell? (b.add j) = some (.int .u64 x) := by
  obtain ⟨a', cap', h0, h2, h1⟩ := h
  simp only [Value.slice.injEq] at h0
  obtain ⟨rfl, _, _⟩ := h0
  exact h1 j x hx
theorem Us.len {w : World} {a : Option Addr} {n cap : Nat} {o : List Int} (h : Us w (.slice a n cap) o) : n = o.length := by
  obtain ⟨a', cap', h0, h2, h1⟩ := h
  simp only [Value.slice.injEq] at h0
  exact h0.2.1
theorem Us.cap {w : World} {a : Option Addr} {n cap : Nat} {o : List Int} (h : Us w (.slice a n cap) o) : n ≤ cap := by
  obtain ⟨a', cap', h0, h2, h1⟩ := h
  simp only [Value.slice.injEq] at h0
  omega
/-- keys as cells -/
def ucs (o : List Int) : List Value := o.map (Value.int .u64)
theorem ucs_len (o : List Int) : (ucs o).length = o.length := by simp [ucs]
theorem info56z : (Try.prog.info? 56).map (fun i => (i.zero, i.size, i.bytes)) = some (some (.int .u64 0), 1, 8) := by kernel_rfl
theorem Us.of_own {w : World} {B : Nat} {v : Value} {o : List Int} (h : w.ownsRow B 56 1 v o.length (ucs o)) : Us w v o := by
  rcases h.2 with ⟨rfl, h0⟩ | ⟨g, cap, cur, rfl, hb', hg, h1, h2, h3, h4⟩
  · obtain rfl : o = [] := List.eq_nil_of_length_eq_zero h0
    exact ⟨none, 0, rfl, by simp, fun j x hx => by simp at hx⟩
  · refine ⟨some ⟨g, 0, none⟩, cap, rfl, by omega, fun j x hx => ⟨_, rfl, ?_⟩⟩
    have hj : (ucs o)[j]? = some (.int .u64 x) := by simp [ucs, hx]
    rw [← h4] at hj
    have hj2 : j < o.length * 1 := by
      have := (List.getElem?_eq_some_iff.1 hj).1
      rw [List.length_take] at this
      omega
    rw [List.getElem?_take_of_lt hj2] at hj
    rw [Addr.add_lit]
    simpa [World.cell?, hg] using hj
/-- keys appended to none: a row of one's own -/
theorem append_us {w : World} {ops : Array Oper} {rest : List Oper} {op : Oper} {a : Act} {Q : Exit → Act → World → Prop} (hgd : op.guard = none) (s x : Operand)
    (ho : op.op = .call { callee := .builtin .append, args := #[s, x], argTypes := #[45, 45] }) (base : Nat) (va : Option Addr) (vc : Nat) (o : List Int) (hl : o.length * 8 ≤ 140737488351232)
    (hs : a.eval s = .slice none 0 0) (hx : a.eval x = .slice va o.length vc) (hO : Us w (.slice va o.length vc) o) (hnil : va = none → vc = 0) (hbase : base ≤ w.heap.size)
    (h : ∀ oa oc w', w'.ownsRow base 56 1 (.slice oa o.length oc) o.length (ucs o) → Kp Nu w w' → wpList Try.prog ops Q rest (a.put op.dst (.slice oa o.length oc)) w') : wpList Try.prog ops Q (op :: rest) a w := by
  obtain ⟨i0, hi0, hz0, hz1, hz2⟩ := info_parts info56z
  rcases va with _ | ad
  · have hM0 : o = [] := by
      cases o with
      | nil => rfl
      | cons x o => obtain ⟨b, hb, _⟩ := hO.at_ (j := 0) rfl; cases hb
    have hvc := hnil rfl
    subst hM0
    subst hvc
    exact wpList_append_own_none hgd s x 45 ho base 56 i0 1 Try.underlying45 hi0 _ 0 [] hs (World.ownsRow_nil _ _ _ _) hx (h none 0 _ (World.ownsRow_nil _ _ _ _) (Kp.refl _ _))
  · refine wpList_append_own _ hgd s x 45 ho base 56 i0 _ 1 8 Try.underlying45 hi0 hz0 hz1 hz2 rfl (by decide) (.slice none 0 0) 0 [] hs (World.ownsRow_nil _ _ _ _) ad o.length vc (ucs o) hx (by simp [ucs_len]) (fun j x hj => ?_) (fun u hu => ?_) (by unfold maxLen; omega) (by omega) hbase ?_
    · simp only [ucs, List.getElem?_map, Option.map_eq_some_iff] at hj
      obtain ⟨y, hy, rfl⟩ := hj
      obtain ⟨b, hb, hc⟩ := hO.at_ hy
      cases hb
      exact hc
    · obtain ⟨x, _, rfl⟩ := List.mem_map.1 hu
      rfl
    · intro v' w' h1 h2 _
      rw [Nat.zero_add, List.nil_append] at h1
      obtain ⟨oa, oc, rfl, _, _⟩ := id (Us.of_own h1)
      exact h oa oc w' h1 ((Kp.of_grown h2).mono (fun i hi e => by simp [Value.ownBlock] at e))
set_option maxRecDepth 100000 in
set_option maxHeartbeats 1000000 in
theorem same21 (w : World) (u v : Value) (o : List Int) (hu : Us w u o) (hv : Us w v o) (hN : o.length ≤ 140737488351232) : Calls Try.prog 21 #[u, v] w fun e w' => e = .returned (.bool true) ∧ Kp Nu w w' := by
  obtain ⟨a1, c1, rfl, _, _⟩ := id hu
  obtain ⟨a2, c2, rfl, _, _⟩ := id hv
  obtain ⟨N, eN⟩ : ∃ N, o.length = N := ⟨_, rfl⟩
  have HU := hide (And.intro hu (And.intro hv eN))
  rw [eN] at hN ⊢
  have hNI : (N : Int) ≤ 140737488351232 := by omega
  have hnn : ((N : Int) != (N : Int)) = false := by simp
  clear hu hv eN hN
  go_enter Try.func21, Try.ntmps21
  go_wp2
  go_loopw [5] (fun iv wr => ∃ i : Nat, iv = .int .i64 (i : Int) ∧ i ≤ N ∧ Hid (Kp Nu w wr)) (fun iv _ => N - (intOf iv).toNat)
  case atStart => exact ⟨0, rfl, Nat.zero_le _, hide (Kp.refl _ _)⟩
  case round =>
    obtain ⟨i, rfl, hi, hk⟩ := hrel
    have hi0 : (0 : Int) ≤ (i : Int) := by omega
    by_cases hlt : i < N
    · have hltI : (i : Int) < (N : Int) := by omega
      obtain ⟨x, hx⟩ : ∃ x, o[i]? = some x := ⟨_, List.getElem?_eq_getElem (by rw [HU.out.2.2]; exact hlt)⟩
      obtain ⟨b1, rfl, k1⟩ := (HU.out.1.nu hk.out).at_ hx
      obtain ⟨b2, rfl, k2⟩ := (HU.out.2.1.nu hk.out).at_ hx
      have eti : (i : Int).toNat = i := by omega
      have hne : (x != x) = false := by simp
      clear hx
      go_wp2_with fail
      go_quiet (fail)
      go_wp2
      exact ⟨⟨i + 1, by go_num, by omega, hide (hk.out.andNu (kp_dn _ _))⟩, by simp [intOf]; omega⟩
    · have hge : ¬ (i : Int) < (N : Int) := by omega
      go_wp2
      go_ret
      exact ⟨rfl, hk.out⟩
/-- each above the one ahead of it -/
def Ris (o : List Int) : Prop := ∀ (i : Nat) x y, o[i]? = some x → o[i + 1]? = some y → x < y
set_option maxRecDepth 100000 in
set_option maxHeartbeats 1000000 in
theorem rise68 (w : World) (u : Value) (o : List Int) (hu : Us w u o) (hN : o.length ≤ 140737488351232) : Calls Try.prog 68 #[u] w fun e w' => Pn.Ans (Ris o) e ∧ Kp Nu w w' := by
  obtain ⟨a1, c1, rfl, _, _⟩ := id hu
  obtain ⟨N, eN⟩ : ∃ N, o.length = N := ⟨_, rfl⟩
  have HU := hide (And.intro hu eN)
  rw [eN] at hN ⊢
  have hNI : (N : Int) ≤ 140737488351232 := by omega
  clear hu eN hN
  go_enter Try.func68, Try.ntmps68
  go_wp2
  go_loopw [3] (fun iv wr => ∃ i : Nat, iv = .int .i64 (i : Int) ∧ 1 ≤ i ∧ (i ≤ N ∨ i = 1) ∧ Hid ((∀ (j : Nat) x y, j + 1 < i → o[j]? = some x → o[j + 1]? = some y → x < y) ∧ Kp Nu w wr)) (fun iv _ => N - (intOf iv).toNat)
  case atStart => exact ⟨1, rfl, Nat.le_refl _, .inr rfl, hide ⟨fun j x y h => by omega, Kp.refl _ _⟩⟩
  case round =>
    obtain ⟨i, rfl, hi1, hi, hk⟩ := hrel
    have hi0 : (0 : Int) ≤ (i : Int) := by omega
    by_cases hlt : i < N
    · have hltI : (i : Int) < (N : Int) := by omega
      obtain ⟨m, hm⟩ : ∃ m, i = m + 1 := ⟨i - 1, by omega⟩
      obtain ⟨x, hx⟩ : ∃ x, o[i]? = some x := ⟨_, List.getElem?_eq_getElem (by rw [HU.out.2]; exact hlt)⟩
      obtain ⟨y, hy⟩ : ∃ y, o[m]? = some y := ⟨_, List.getElem?_eq_getElem (by rw [HU.out.2]; omega)⟩
      obtain ⟨b1, rfl, k1⟩ := (HU.out.1.nu hk.out.2).at_ hx
      obtain ⟨b2, e2, k2⟩ := (HU.out.1.nu hk.out.2).at_ hy
      cases e2
      have HX := hide (And.intro hx (And.intro hy hm))
      have eti : (i : Int).toNat = i := by omega
      have ew : IntKind.i64.wrap ((i : Int) - 1) = (m : Int) := by rw [IntKind.wrap_i64]; omega
      have etm : (m : Int).toNat = m := by omega
      have hm0 : 0 ≤ (m : Int) := by omega
      have hm1 : (m : Int) < (N : Int) := by omega
      clear hx hy hm
      by_cases hle : x ≤ y
      · have HL := hide hle
        go_wp2_with fail
        go_quiet (fail)
        go_wp2
        go_ret
        refine ⟨⟨false, rfl, ?_⟩, hk.out.2.andNu (kp_dn _ _)⟩
        simp
        intro hr
        have hX1 := HX.out.1
        rw [HX.out.2.2] at hX1
        have := hr m y x HX.out.2.1 hX1
        have := HL.out
        omega
      · have HL := hide hle
        go_wp2_with fail
        go_quiet (fail)
        go_wp2
        refine ⟨⟨i + 1, by go_num, by omega, .inl (by omega), hide ⟨fun j x' y' hj hx' hy' => ?_, hk.out.2.andNu (kp_dn _ _)⟩⟩, by simp [intOf]; omega⟩
        have hm := HX.out.2.2
        rcases Nat.lt_or_ge (j + 1) i with h | h
        · exact hk.out.1 j x' y' h hx' hy'
        · obtain rfl : j = m := by omega
          have e1 := HX.out.1
          have e2 := HX.out.2.1
          rw [hm] at e1
          rw [hx'] at e2
          rw [hy'] at e1
          cases e1
          cases e2
          have := HL.out
          omega
    · have hge : ¬ (i : Int) < (N : Int) := by omega
      go_wp2
      go_ret
      refine ⟨⟨true, rfl, ?_⟩, hk.out.2⟩
      simp
      intro j x y hx hy
      have h1 := (List.getElem?_eq_some_iff.1 hy).1
      rw [HU.out.2] at h1
      exact hk.out.1 j x y (by omega) hx hy
end Go.Proofs.Ytbifmcadllilhaa.Rg
