import Derived.Test.YtbifmcadllilhaaPdG
import Derived.Test.YtbifmcadllilhaaPdE
import Derived.Test.YtbifmcadllilhaaPnC
namespace Go.Proofs.Ytbifmcadllilhaa.Rg
open Go.RowKit Go.Shelf Go.Sort
open Go.Proofs.Ytbifmcadllilhaa.It
set_option linter.unusedVariables false
theorem dl_len : ∀ (L : List Sg) (ks : List Int), (dl L ks).length = L.length
  | [], ks => rfl
  | s :: r, ks => by simp [dl, dl_len r]
theorem dl_le : ∀ (L : List Sg) (ks : List Int), ∀ m ∈ dl L ks, m ≤ ks.length
  | [], ks, m, h => by cases h
  | s :: r, ks, m, h => by
    rcases List.mem_cons.1 h with rfl | h
    · exact wth_le _ _
    · have := dl_le r _ m h
      rw [List.length_drop] at this
      omega
set_option maxRecDepth 100000 in
set_option maxHeartbeats 2000000 in
theorem loads19 (w : World) (n : Int) (u k : Value) (M : List Sg) (ks : List Int) (hM : Sgs w u M) (hlen : (M.length : Int) ≤ 5864062014634) (hk : Us w k ks) (hkl : ks.length * 8 ≤ 140737488351232) (hkr : ∀ x ∈ ks, 0 ≤ x ∧ x < 18446744073709551616) (hnil : ∀ m c, k = .slice none m c → c = 0) :
    Calls Try.prog 19 #[.int .i64 n, u, k] w fun e w' => ∃ v c, e = .returned (.tuple #[v, .int .i64 c]) ∧ LoR w w' n M ks v c ∧ Kp Nu w w' := by
  have HO := Pn.hosts41 w n
  have LA := layOut42 w n u k M ks hM hlen hk hkl hnil
  obtain ⟨ad, cap, hu⟩ := hM.slice
  obtain ⟨a1, c1, rfl, _, _⟩ := id hk
  obtain ⟨N, eN⟩ : ∃ N, ks.length = N := ⟨_, rfl⟩
  have HU := hide (And.intro hM (And.intro eN (And.intro hkl hkr)))
  rw [eN] at hkl LA ⊢
  generalize M.length = NM at hu
  subst hu
  clear hM hk eN hlen hkr hnil
  go_enter Try.func19, Try.ntmps19
  go_wp2_with fail
  refine HO.mono ?_; rintro e w1 ⟨⟨b1, rfl, hb1⟩, hw⟩
  obtain rfl := hw
  have HB := hide hb1
  clear HO hb1
  cases b1 with
  | false =>
    go_wp2
    go_ret2
    exact ⟨_, _, rfl, .inl ⟨fun h => by simpa using HB.out.2 h, rfl, rfl⟩, Kp.refl _ _⟩
  | true =>
    have hn := HB.out.1 rfl
    have HN := hide hn
    clear hn HB
    go_wp2_with fail
    refine LA.mono ?_; rintro e w2 ⟨v, c, rfl, hP, hk2⟩
    rcases hP with ⟨h1, rfl, rfl⟩ | ⟨h1, rfl, l, h2, ⟨h3, _, _⟩, h4⟩
    · have H := hide (And.intro h1 hk2)
      clear h1 hk2 LA
      go_wp2
      go_ret2
      exact ⟨_, _, rfl, .inr (.inl ⟨HN.out, H.out.1, rfl, rfl⟩), H.out.2⟩
    · obtain ⟨n', hn'⟩ : ∃ n' : Nat, n = (n' : Int) := ⟨n.toNat, by have := HN.out; omega⟩
      subst hn'
      have tab := (lok_good h1.1.1 h1.1.2.1 HU.out.1.sgb).tab
      have hl8 : l.length ≤ 8192 := by
        have := congrArg List.length h2
        simp only [List.length_map] at this
        have := h1.1.2.2
        omega
      have CO := loadsOf43 w2 _ n' v l h4 (by have := HN.out; omega) (fun s hs => by
          have hm : s.sg ∈ lays [] M := by rw [← h2]; exact List.mem_map.2 ⟨s, hs, rfl⟩
          exact ⟨(tab.hs _ hm).1, h1.2.1 _ hm⟩) hl8 (fun s hs => by
          have hm : s.n ∈ dl (lays [] M) ks := by rw [← h3]; exact List.mem_map.2 ⟨s, hs, rfl⟩
          have := dl_le _ _ _ hm
          have := HU.out.2.2.1
          omega)
      obtain ⟨va, vc, rfl⟩ := own_slice h4
      have e5 : (List.range n').map (fun q => Value.int .i64 (sl l q)) = Pn.ics (Pn.lds n' (ks.map (ow (lays [] M)))) := by
        unfold Pn.ics Pn.lds
        rw [List.map_map]
        refine List.map_congr_left (fun q _ => ?_)
        show Value.int .i64 (sl l q) = Value.int .i64 _
        rw [← sm_dl tab.cov h1.2.2 HU.out.2.2.2 q]
        unfold sl
        rw [h2, h3]
      rw [e5] at CO
      obtain ⟨LN, eLN⟩ : ∃ LN, l.length = LN := ⟨_, rfl⟩
      rw [eLN] at CO ⊢
      have H := hide (And.intro h1 hk2)
      clear h1 h2 h3 h4 hk2 LA tab hl8 e5 eLN
      go_wp2_with fail
      refine CO.mono ?_; rintro e w3 ⟨g, rfl, ho3, hk3⟩
      have H3 := hide (And.intro (own_base ho3 H.out.2.size) (H.out.2.andNu hk3))
      clear CO ho3 hk3
      go_wp2
      go_ret2
      exact ⟨_, _, rfl, .inr (.inr ⟨HN.out, H.out.1, rfl, n', rfl, H3.out.1⟩), H3.out.2⟩
end Go.Proofs.Ytbifmcadllilhaa.Rg
namespace Go.Proofs.Ytbifmcadllilhaa.Rg
open Go.RowKit Go.Shelf Go.Sort
open Go.Proofs.Ytbifmcadllilhaa.It
set_option linter.unusedVariables false
theorem info82z : (Try.prog.info? 82).map (fun i => (i.zero, i.size, i.bytes)) = some (some (.agg #[.int .u64 0, .int .u64 0, .int .u8 0]), 3, 24) := by kernel_rfl
theorem Sgs.of_own {w : World} {B : Nat} {v : Value} {M : List Sg} (h : w.ownsRow B 82 3 v M.length (cells M)) (hb : ∀ s ∈ M, SgB s) : Sgs w v M := by
  by_cases h0 : 0 < M.length
  · obtain ⟨r, off, cap, e, hc⟩ := rs_of_own h h0
    refine .inr ⟨r, off, cap, e, fun i s hs => ?_⟩
    obtain ⟨x0, x1, x2⟩ := hc i s hs
    have b := hb s (List.mem_of_getElem? hs)
    exact ⟨x0, x1, x2, b.1, b.2, b.3, b.4, b.5, b.6⟩
  · have e : M = [] := List.eq_nil_of_length_eq_zero (by omega)
    subst e
    obtain ⟨ad, cap, e⟩ := own_slice h
    exact .inl ⟨⟨ad, cap, e⟩, rfl⟩
theorem cells_get {M : List Sg} {j : Nat} {u : Value} (h : (cells M)[j]? = some u) : ∃ s, M[j / 3]? = some s ∧ (cellsG s)[j % 3]? = some u := by
  have hlt : j < M.length * 3 := by
    have := (List.getElem?_eq_some_iff.1 h).1
    rwa [cells_length] at this
  obtain ⟨s, hs⟩ : ∃ s, M[j / 3]? = some s := ⟨_, List.getElem?_eq_getElem (by omega)⟩
  refine ⟨s, hs, ?_⟩
  rw [← cells_at M (j / 3) s hs (j % 3) (by omega)]
  have e : j / 3 * 3 + j % 3 = j := by omega
  rw [e]; exact h
/-- segments appended to none: a row of one's own -/
theorem append_sg {w : World} {ops : Array Oper} {rest : List Oper} {op : Oper} {a : Act} {Q : Exit → Act → World → Prop} (hgd : op.guard = none) (s x : Operand)
    (ho : op.op = .call { callee := .builtin .append, args := #[s, x], argTypes := #[36, 36] }) (base : Nat) (va : Option Addr) (vc : Nat) (M : List Sg) (hl : M.length ≤ 5864062014634)
    (hs : a.eval s = .slice none 0 0) (hx : a.eval x = .slice va M.length vc) (hO : Sgs w (.slice va M.length vc) M) (hnil : va = none → vc = 0) (hbase : base ≤ w.heap.size)
    (h : ∀ oa oc w', w'.ownsRow base 82 3 (.slice oa M.length oc) M.length (cells M) → Kp Nu w w' → wpList Try.prog ops Q rest (a.put op.dst (.slice oa M.length oc)) w') : wpList Try.prog ops Q (op :: rest) a w := by
  obtain ⟨i0, hi0, hz0, hz1, hz2⟩ := info_parts info82z
  rcases va with _ | ad
  · have hM0 : M = [] := by
      rcases hO with ⟨_, h0⟩ | ⟨b, off, cap, e, _⟩
      · exact h0
      · cases e
    have hvc := hnil rfl
    subst hM0
    subst hvc
    exact wpList_append_own_none hgd s x 36 ho base 82 i0 3 Try.underlying36 hi0 _ 0 [] hs (World.ownsRow_nil _ _ _ _) hx (h none 0 _ (World.ownsRow_nil _ _ _ _) (Kp.refl _ _))
  · refine wpList_append_own _ hgd s x 36 ho base 82 i0 _ 3 24 Try.underlying36 hi0 hz0 hz1 hz2 rfl (by decide) (.slice none 0 0) 0 [] hs (World.ownsRow_nil _ _ _ _) ad M.length vc (cells M) hx (cells_length M) (fun j x hj => ?_) (fun u hu => ?_) (by unfold maxLen; omega) (by omega) hbase ?_
    · obtain ⟨sg, h1, h2⟩ := cells_get hj
      rcases hO with ⟨_, h0⟩ | ⟨b, off, cap, e, hc⟩
      · rw [h0] at h1; simp at h1
      · simp only [Value.slice.injEq, Option.some.injEq] at e
        obtain ⟨rfl, _, _⟩ := e
        have q := hc _ _ h1
        rw [Addr.add_lit]
        have e3 : j = j / 3 * 3 + j % 3 := by omega
        have h3 : j % 3 = 0 ∨ j % 3 = 1 ∨ j % 3 = 2 := by omega
        rcases h3 with h3 | h3 | h3
        · rw [h3] at h2 e3; simp only [cellsG, List.getElem?_cons_zero, Option.some.injEq] at h2
          rw [e3, Nat.add_zero, ← h2]; exact q.c0
        · rw [h3] at h2 e3; simp only [cellsG, List.getElem?_cons_succ, List.getElem?_cons_zero, Option.some.injEq] at h2
          rw [e3, ← Nat.add_assoc, ← h2]; exact q.c1
        · rw [h3] at h2 e3; simp only [cellsG, List.getElem?_cons_succ, List.getElem?_cons_zero, Option.some.injEq] at h2
          rw [e3, ← Nat.add_assoc, ← h2]; exact q.c2
    · obtain ⟨j, hj⟩ := List.getElem?_of_mem hu
      obtain ⟨sg, _, h2⟩ := cells_get hj
      have hm := List.mem_of_getElem? h2
      simp only [cellsG, List.mem_cons, List.not_mem_nil, or_false] at hm
      rcases hm with rfl | rfl | rfl <;> rfl
    · intro v' w' h1 h2 _
      rw [Nat.zero_add, List.nil_append] at h1
      obtain ⟨oa, oc, rfl⟩ := own_slice h1
      exact h oa oc w' h1 ((Kp.of_grown h2).mono (fun i hi e => by simp [Value.ownBlock] at e))
theorem Sgs.at_ {w : World} {a : Option Addr} {n cap : Nat} {M : List Sg} (h : Sgs w (.slice a n cap) M) {i : Nat} {s : Sg} (hs : M[i]? = some s) : ∃ b off, a = some ⟨b, off, none⟩ ∧ SgAt w b (off + i * 3) s := by
  rcases h with ⟨_, h0⟩ | ⟨b, off, cap', e, hc⟩
  · rw [h0] at hs; simp at hs
  · cases e
    exact ⟨b, off, rfl, hc i s hs⟩
set_option maxRecDepth 100000 in
set_option maxHeartbeats 2000000 in
theorem sameSegments17 (w : World) (u v : Value) (M : List Sg) (hu : Sgs w u M) (hv : Sgs w v M) (hN : M.length ≤ 5864062014634) : Calls Try.prog 17 #[u, v] w fun e w' => e = .returned (.bool true) ∧ Kp Nu w w' := by
  obtain ⟨a1, c1, e1⟩ := hu.slice
  obtain ⟨a2, c2, e2⟩ := hv.slice
  obtain ⟨N, eN⟩ : ∃ N, M.length = N := ⟨_, rfl⟩
  rw [eN] at e1 e2 hN
  subst e1 e2
  have HU := hide (And.intro hu (And.intro hv eN))
  have hNI : (N : Int) ≤ 5864062014634 := by omega
  have hnn : ((N : Int) != (N : Int)) = false := by simp
  clear hu hv eN hN
  go_enter Try.func17, Try.ntmps17
  go_wp2
  go_loopw [5] (fun iv wr => ∃ i : Nat, iv = .int .i64 (i : Int) ∧ i ≤ N ∧ Hid (Kp Nu w wr)) (fun iv _ => N - (intOf iv).toNat)
  case atStart => exact ⟨0, rfl, Nat.zero_le _, hide (Kp.refl _ _)⟩
  case round =>
    obtain ⟨i, rfl, hi, hk⟩ := hrel
    have hi0 : (0 : Int) ≤ (i : Int) := by omega
    by_cases hlt : i < N
    · have hltI : (i : Int) < (N : Int) := by omega
      obtain ⟨x, hx⟩ : ∃ x, M[i]? = some x := ⟨_, List.getElem?_eq_getElem (by rw [HU.out.2.2]; exact hlt)⟩
      obtain ⟨b1, o1, rfl, k1⟩ := (HU.out.1.nu hk.out).at_ hx
      obtain ⟨b2, o2, rfl, k2⟩ := (HU.out.2.1.nu hk.out).at_ hx
      obtain ⟨x0, x1, x2, _⟩ := k1
      obtain ⟨y0, y1, y2, _⟩ := k2
      have eti : (i : Int).toNat = i := by omega
      obtain ⟨lo, elo⟩ : ∃ lo, x.lo = lo := ⟨_, rfl⟩
      obtain ⟨h2, ehi⟩ : ∃ h2, x.hi = h2 := ⟨_, rfl⟩
      obtain ⟨ho, eho⟩ : ∃ ho, x.h = ho := ⟨_, rfl⟩
      rw [elo] at x0 y0
      rw [ehi] at x1 y1
      rw [eho] at x2 y2
      clear hx elo ehi eho
      go_wp2_with fail
      go_region
      go_wp2
      exact ⟨⟨i + 1, by go_num, by omega, hide (hk.out.drew)⟩, by simp [intOf]; omega⟩
    · have hge : ¬ (i : Int) < (N : Int) := by omega
      go_wp2
      go_ret
      exact ⟨rfl, hk.out⟩
end Go.Proofs.Ytbifmcadllilhaa.Rg
