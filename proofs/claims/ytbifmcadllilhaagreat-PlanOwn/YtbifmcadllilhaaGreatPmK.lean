import Derived.Test.YtbifmcadllilhaaGreatPdG
import Derived.Test.YtbifmcadllilhaaGreatPdE
import Derived.Test.YtbifmcadllilhaaGreatPnC
import Derived.Test.YtbifmcadllilhaaGreatRgD
import Derived.Deep.RegionHeld3
import Derived.Deep.RegionLaw
namespace Go.Proofs.YtbifmcadllilhaaGreat.Rg
open Go.RowKit Go.Shelf Go.Sort
open Go.Proofs.YtbifmcadllilhaaGreat.It
set_option linter.unusedVariables false
theorem dl_len : ∀ (L : List Sg) (ks : List Int), (dl L ks).length = L.length
  | [], ks => rfl
  | s :: r, ks => by simp [dl, dl_len r]
theorem dl_le : ∀ (L : List Sg) (ks : List Int), ∀ m ∈ dl L ks, m ≤ ks.length
  | [], ks, m, h => by cases h
  | s :: r, ks, m, h => by
    rcases List.mem_cons.1 h with rfl | h
    · exact wth_le _ _
    · have := dl_le r _ m h
      rw [List.length_drop] at this
      omega
set_option maxRecDepth 100000 in
set_option maxHeartbeats 2000000 in
theorem loads19 (w : World) (n : Int) (u k : Value) (M : List Sg) (ks : List Int) (hM : Sgs w u M) (hlen : (M.length : Int) ≤ 5864062014634) (hk : Us w k ks) (hkl : ks.length * 8 ≤ 140737488351232) (hkr : ∀ x ∈ ks, 0 ≤ x ∧ x < 18446744073709551616) (hnil : ∀ m c, k = .slice none m c → c = 0) :
    Calls Tryz.prog 17 #[.int .i64 n, u, k] w fun e w' => ∃ v c, e = .returned (.tuple #[v, .int .i64 c]) ∧ LoR w w' n M ks v c ∧ Kp Nu w w' := by
  have HO := Pn.hosts41 w n
  have LA := layOut42 w n u k M ks hM hlen hk hkl hnil
  obtain ⟨ad, cap, hu⟩ := hM.slice
  obtain ⟨a1, c1, rfl, _, _⟩ := id hk
  obtain ⟨N, eN⟩ : ∃ N, ks.length = N := ⟨_, rfl⟩
  have HU := hide (And.intro hM (And.intro eN (And.intro hkl hkr)))
  rw [eN] at hkl LA ⊢
  generalize M.length = NM at hu
  subst hu
  clear hM hk eN hlen hkr hnil
  go_enter Tryz.func17, Tryz.ntmps17
  go_wp2_with fail
  refine HO.mono ?_; rintro e w1 ⟨⟨b1, rfl, hb1⟩, hw⟩
  obtain rfl := hw
  have HB := hide hb1
  clear HO hb1
  cases b1 with
  | false =>
    go_wp2
    go_ret2
    exact ⟨_, _, rfl, .inl ⟨fun h => by simpa using HB.out.2 h, rfl, rfl⟩, Kp.refl _ _⟩
  | true =>
    have hn := HB.out.1 rfl
    have HN := hide hn
    clear hn HB
    go_wp2_with fail
    refine LA.mono ?_; rintro e w2 ⟨v, c, rfl, hP, hk2⟩
    rcases hP with ⟨h1, rfl, rfl⟩ | ⟨h1, rfl, l, h2, ⟨h3, _, _⟩, h4⟩
    · have H := hide (And.intro h1 hk2)
      clear h1 hk2 LA
      go_wp2
      go_ret2
      exact ⟨_, _, rfl, .inr (.inl ⟨HN.out, H.out.1, rfl, rfl⟩), H.out.2⟩
    · obtain ⟨n', hn'⟩ : ∃ n' : Nat, n = (n' : Int) := ⟨n.toNat, by have := HN.out; omega⟩
      subst hn'
      have tab := (lok_good h1.1.1 h1.1.2.1 HU.out.1.sgb).tab
      have hl8 : l.length ≤ 8192 := by
        have := congrArg List.length h2
        simp only [List.length_map] at this
        have := h1.1.2.2
        omega
      have CO := loadsOf43 w2 _ n' v l h4 (by have := HN.out; omega) (fun s hs => by
          have hm : s.sg ∈ lays [] M := by rw [← h2]; exact List.mem_map.2 ⟨s, hs, rfl⟩
          exact ⟨(tab.hs _ hm).1, h1.2.1 _ hm⟩) hl8 (fun s hs => by
          have hm : s.n ∈ dl (lays [] M) ks := by rw [← h3]; exact List.mem_map.2 ⟨s, hs, rfl⟩
          have := dl_le _ _ _ hm
          have := HU.out.2.2.1
          omega)
      obtain ⟨va, vc, rfl⟩ := own_slice h4
      have e5 : (List.range n').map (fun q => Value.int .i64 (sl l q)) = Pn.ics (Pn.lds n' (ks.map (ow (lays [] M)))) := by
        unfold Pn.ics Pn.lds
        rw [List.map_map]
        refine List.map_congr_left (fun q _ => ?_)
        show Value.int .i64 (sl l q) = Value.int .i64 _
        rw [← sm_dl tab.cov h1.2.2 HU.out.2.2.2 q]
        unfold sl
        rw [h2, h3]
      rw [e5] at CO
      obtain ⟨LN, eLN⟩ : ∃ LN, l.length = LN := ⟨_, rfl⟩
      rw [eLN] at CO ⊢
      have H := hide (And.intro h1 hk2)
      clear h1 h2 h3 h4 hk2 LA tab hl8 e5 eLN
      go_wp2_with fail
      refine CO.mono ?_; rintro e w3 ⟨g, rfl, ho3, hk3⟩
      have H3 := hide (And.intro (own_base ho3 H.out.2.size) (H.out.2.andNu hk3))
      clear CO ho3 hk3
      go_wp2
      go_ret2
      exact ⟨_, _, rfl, .inr (.inr ⟨HN.out, H.out.1, rfl, n', rfl, H3.out.1⟩), H3.out.2⟩
end Go.Proofs.YtbifmcadllilhaaGreat.Rg
namespace Go.Proofs.YtbifmcadllilhaaGreat.Rg
open Go.RowKit Go.Shelf Go.Sort
open Go.Proofs.YtbifmcadllilhaaGreat.It
set_option linter.unusedVariables false
theorem info82z : (Tryz.prog.info? 38).map (fun i => (i.zero, i.size, i.bytes)) = some (some (.agg #[.int .u64 0, .int .u64 0, .int .u8 0]), 3, 24) := by kernel_rfl
theorem Sgs.of_own {w : World} {B : Nat} {v : Value} {M : List Sg} (h : w.ownsRow B 38 3 v M.length (cells M)) (hb : ∀ s ∈ M, SgB s) : Sgs w v M := by
  by_cases h0 : 0 < M.length
  · obtain ⟨r, off, cap, e, hc⟩ := rs_of_own h h0
    refine .inr ⟨r, off, cap, e, fun i s hs => ?_⟩
    obtain ⟨x0, x1, x2⟩ := hc i s hs
    have b := hb s (List.mem_of_getElem? hs)
    exact ⟨x0, x1, x2, b.1, b.2, b.3, b.4, b.5, b.6⟩
  · have e : M = [] := List.eq_nil_of_length_eq_zero (by omega)
    subst e
    obtain ⟨ad, cap, e⟩ := own_slice h
    exact .inl ⟨⟨ad, cap, e⟩, rfl⟩
theorem cells_get {M : List Sg} {j : Nat} {u : Value} (h : (cells M)[j]? = some u) : ∃ s, M[j / 3]? = some s ∧ (cellsG s)[j % 3]? = some u := by
  have hlt : j < M.length * 3 := by
    have := (List.getElem?_eq_some_iff.1 h).1
    rwa [cells_length] at this
  obtain ⟨s, hs⟩ : ∃ s, M[j / 3]? = some s := ⟨_, List.getElem?_eq_getElem (by omega)⟩
  refine ⟨s, hs, ?_⟩
  rw [← cells_at M (j / 3) s hs (j % 3) (by omega)]
  have e : j / 3 * 3 + j % 3 = j := by omega
  rw [e]; exact h
/-- segments appended to none: a row of one's own -/
theorem append_sg {w : World} {ops : Array Oper} {rest : List Oper} {op : Oper} {a : Act} {Q : Exit → Act → World → Prop} (hgd : op.guard = none) (s x : Operand)
    (ho : op.op = .call { callee := .builtin .append, args := #[s, x], argTypes := #[22, 22] }) (base : Nat) (va : Option Addr) (vc : Nat) (M : List Sg) (hl : M.length ≤ 5864062014634)
    (hs : a.eval s = .slice none 0 0) (hx : a.eval x = .slice va M.length vc) (hO : Sgs w (.slice va M.length vc) M) (hnil : va = none → vc = 0) (hbase : base ≤ w.heap.size)
    (h : ∀ oa oc w', w'.ownsRow base 38 3 (.slice oa M.length oc) M.length (cells M) → Kp Nu w w' → wpList Tryz.prog ops Q rest (a.put op.dst (.slice oa M.length oc)) w') : wpList Tryz.prog ops Q (op :: rest) a w := by
  obtain ⟨i0, hi0, hz0, hz1, hz2⟩ := info_parts info82z
  rcases va with _ | ad
  · have hM0 : M = [] := by
      rcases hO with ⟨_, h0⟩ | ⟨b, off, cap, e, _⟩
      · exact h0
      · cases e
    have hvc := hnil rfl
    subst hM0
    subst hvc
    exact wpList_append_own_none hgd s x 22 ho base 38 i0 3 Tryz.underlying22 hi0 _ 0 [] hs (World.ownsRow_nil _ _ _ _) hx (h none 0 _ (World.ownsRow_nil _ _ _ _) (Kp.refl _ _))
  · refine wpList_append_own _ hgd s x 22 ho base 38 i0 _ 3 24 Tryz.underlying22 hi0 hz0 hz1 hz2 rfl (by decide) (.slice none 0 0) 0 [] hs (World.ownsRow_nil _ _ _ _) ad M.length vc (cells M) hx (cells_length M) (fun j x hj => ?_) (fun u hu => ?_) (by unfold maxLen; omega) (by omega) hbase ?_
    · obtain ⟨sg, h1, h2⟩ := cells_get hj
      rcases hO with ⟨_, h0⟩ | ⟨b, off, cap, e, hc⟩
      · rw [h0] at h1; simp at h1
      · simp only [Value.slice.injEq, Option.some.injEq] at e
        obtain ⟨rfl, _, _⟩ := e
        have q := hc _ _ h1
        rw [Addr.add_lit]
        have e3 : j = j / 3 * 3 + j % 3 := by omega
        have h3 : j % 3 = 0 ∨ j % 3 = 1 ∨ j % 3 = 2 := by omega
        rcases h3 with h3 | h3 | h3
        · rw [h3] at h2 e3; simp only [cellsG, List.getElem?_cons_zero, Option.some.injEq] at h2
          rw [e3, Nat.add_zero, ← h2]; exact q.c0
        · rw [h3] at h2 e3; simp only [cellsG, List.getElem?_cons_succ, List.getElem?_cons_zero, Option.some.injEq] at h2
          rw [e3, ← Nat.add_assoc, ← h2]; exact q.c1
        · rw [h3] at h2 e3; simp only [cellsG, List.getElem?_cons_succ, List.getElem?_cons_zero, Option.some.injEq] at h2
          rw [e3, ← Nat.add_assoc, ← h2]; exact q.c2
    · obtain ⟨j, hj⟩ := List.getElem?_of_mem hu
      obtain ⟨sg, _, h2⟩ := cells_get hj
      have hm := List.mem_of_getElem? h2
      simp only [cellsG, List.mem_cons, List.not_mem_nil, or_false] at hm
      rcases hm with rfl | rfl | rfl <;> rfl
    · intro v' w' h1 h2 _
      rw [Nat.zero_add, List.nil_append] at h1
      obtain ⟨oa, oc, rfl⟩ := own_slice h1
      exact h oa oc w' h1 ((Kp.of_grown h2).mono (fun i hi e => by simp [Value.ownBlock] at e))
theorem Sgs.at_ {w : World} {a : Option Addr} {n cap : Nat} {M : List Sg} (h : Sgs w (.slice a n cap) M) {i : Nat} {s : Sg} (hs : M[i]? = some s) : ∃ b off, a = some ⟨b, off, none⟩ ∧ SgAt w b (off + i * 3) s := by
  rcases h with ⟨_, h0⟩ | ⟨b, off, cap', e, hc⟩
  · rw [h0] at hs; simp at hs
  · cases e
    exact ⟨b, off, rfl, hc i s hs⟩
set_option maxRecDepth 100000 in
set_option maxHeartbeats 2000000 in
theorem sameSegments17 (w : World) (u v : Value) (M : List Sg) (hu : Sgs w u M) (hv : Sgs w v M) (hN : M.length ≤ 5864062014634) : Calls Tryz.prog 13 #[u, v] w fun e w' => e = .returned (.bool true) ∧ Kp Nu w w' := by
  obtain ⟨a1, c1, e1⟩ := hu.slice
  obtain ⟨a2, c2, e2⟩ := hv.slice
  obtain ⟨N, eN⟩ : ∃ N, M.length = N := ⟨_, rfl⟩
  rw [eN] at e1 e2 hN
  subst e1 e2
  have HU := hide (And.intro hu (And.intro hv eN))
  have hNI : (N : Int) ≤ 5864062014634 := by omega
  have hnn : ((N : Int) != (N : Int)) = false := by simp
  clear hu hv eN hN
  go_enter Tryz.func13, Tryz.ntmps13
  go_wp2
  go_loopw [5] (fun iv wr => ∃ i : Nat, iv = .int .i64 (i : Int) ∧ i ≤ N ∧ Hid (Kp Nu w wr)) (fun iv _ => N - (intOf iv).toNat)
  case atStart => exact ⟨0, rfl, Nat.zero_le _, hide (Kp.refl _ _)⟩
  case round =>
    obtain ⟨i, rfl, hi, hk⟩ := hrel
    have hi0 : (0 : Int) ≤ (i : Int) := by omega
    by_cases hlt : i < N
    · have hltI : (i : Int) < (N : Int) := by omega
      obtain ⟨x, hx⟩ : ∃ x, M[i]? = some x := ⟨_, List.getElem?_eq_getElem (by rw [HU.out.2.2]; exact hlt)⟩
      obtain ⟨b1, o1, rfl, k1⟩ := (HU.out.1.nu hk.out).at_ hx
      obtain ⟨b2, o2, rfl, k2⟩ := (HU.out.2.1.nu hk.out).at_ hx
      obtain ⟨x0, x1, x2, _⟩ := k1
      obtain ⟨y0, y1, y2, _⟩ := k2
      have eti : (i : Int).toNat = i := by omega
      obtain ⟨lo, elo⟩ : ∃ lo, x.lo = lo := ⟨_, rfl⟩
      obtain ⟨h2, ehi⟩ : ∃ h2, x.hi = h2 := ⟨_, rfl⟩
      obtain ⟨ho, eho⟩ : ∃ ho, x.h = ho := ⟨_, rfl⟩
      rw [elo] at x0 y0
      rw [ehi] at x1 y1
      rw [eho] at x2 y2
      clear hx elo ehi eho
      go_wp2_with fail
      go_region
      go_wp2
      exact ⟨⟨i + 1, by go_num, by omega, hide (hk.out.drew)⟩, by simp [intOf]; omega⟩
    · have hge : ¬ (i : Int) < (N : Int) := by omega
      go_wp2
      go_ret
      exact ⟨rfl, hk.out⟩
end Go.Proofs.YtbifmcadllilhaaGreat.Rg
namespace Go.Proofs.YtbifmcadllilhaaGreat.Pn
open Go.RowKit Go.Shelf Go.Sort
set_option linter.unusedVariables false
/-- the first of the greatest that are above 0; -1: none -/
def Gst (l : List Int) (r : Int) : Prop := (r = -1 ∧ ∀ (j : Nat) y, l[j]? = some y → y ≤ 0) ∨ ∃ (k : Nat) (x : Int), r = (k : Int) ∧ l[k]? = some x ∧ 0 < x ∧ ∀ (j : Nat) y, l[j]? = some y → y ≤ x ∧ (y = x → k ≤ j)
theorem get_snoc {l : List Int} {y : Int} {j : Nat} {z : Int} (h : (l ++ [y])[j]? = some z) : l[j]? = some z ∨ (j = l.length ∧ z = y) := by
  by_cases e : j < l.length
  · rw [List.getElem?_append_left e] at h; exact .inl h
  · rw [List.getElem?_append_right (by omega)] at h
    rcases Nat.eq_zero_or_pos (j - l.length) with e0 | e0
    · rw [e0] at h
      simp only [List.getElem?_cons_zero, Option.some.injEq] at h
      exact .inr ⟨by omega, h.symm⟩
    · rw [List.getElem?_eq_none (by simp; omega)] at h; cases h
theorem Gst.low {l : List Int} {r y : Int} (h : Gst l r) (hy : y ≤ 0) : Gst (l ++ [y]) r := by
  rcases h with ⟨h1, h2⟩ | ⟨k, x, h1, h2, h3, h4⟩
  · refine .inl ⟨h1, fun j z hz => ?_⟩
    rcases get_snoc hz with h | ⟨_, rfl⟩
    · exact h2 j z h
    · exact hy
  · have hk : k < l.length := by
      rcases Nat.lt_or_ge k l.length with h | h
      · exact h
      · rw [List.getElem?_eq_none h] at h2; cases h2
    refine .inr ⟨k, x, h1, by rw [List.getElem?_append_left hk]; exact h2, h3, fun j z hz => ?_⟩
    rcases get_snoc hz with h | ⟨_, rfl⟩
    · exact h4 j z h
    · omega
theorem Gst.less {l : List Int} {k : Nat} {x y : Int} (h : Gst l (k : Int)) (hx : l[k]? = some x) (hy : y ≤ x) : Gst (l ++ [y]) (k : Int) := by
  rcases h with ⟨h1, _⟩ | ⟨k', x', h1, h2, h3, h4⟩
  · omega
  · obtain rfl : k = k' := by omega
    rw [hx] at h2
    cases h2
    have hk : k < l.length := by
      rcases Nat.lt_or_ge k l.length with h | h
      · exact h
      · rw [List.getElem?_eq_none h] at hx; cases hx
    refine .inr ⟨k, x, rfl, by rw [List.getElem?_append_left hk]; exact hx, h3, fun j z hz => ?_⟩
    rcases get_snoc hz with h | ⟨rfl, rfl⟩
    · exact h4 j z h
    · exact ⟨hy, fun _ => by omega⟩
theorem Gst.more {l : List Int} {r y : Int} (h : Gst l r) (hy : 0 < y) (hr : ∀ (k : Nat) x, r = (k : Int) → l[k]? = some x → x < y) : Gst (l ++ [y]) (l.length : Int) := by
  refine .inr ⟨l.length, y, rfl, by rw [List.getElem?_append_right (Nat.le_refl _)]; simp, hy, fun j z hz => ?_⟩
  rcases get_snoc hz with q | ⟨rfl, rfl⟩
  · rcases h with ⟨h1, h2⟩ | ⟨k, x, h1, h2, h3, h4⟩
    · have := h2 j z q; omega
    · have := hr k x h1 h2
      have := (h4 j z q).1
      omega
  · exact ⟨Int.le_refl _, fun _ => Nat.le_refl _⟩
end Go.Proofs.YtbifmcadllilhaaGreat.Pn
namespace Go.Proofs.YtbifmcadllilhaaGreat.Rg
set_option linter.unusedVariables false
/-- a move -/
structure Mv where
  f : Int
  t : Int
  lo : Int
  hi : Int
  n : Int
/-- its numbers are as its kinds have them -/
structure MvB (m : Mv) : Prop where
  f0 : 0 ≤ m.f
  f1 : m.f < 256
  t0 : 0 ≤ m.t
  t1 : m.t < 256
  l0 : 0 ≤ m.lo
  l1 : m.lo < 18446744073709551616
  h0 : 0 ≤ m.hi
  h1 : m.hi < 18446744073709551616
/-- it may be, whoever owns its keys -/
def Mok (m : Mv) : Prop := m.lo ≤ m.hi ∧ m.f < 16 ∧ m.t < 16 ∧ m.f ≠ m.t
/-- all its keys are the giver's -/
def Own (L : List Sg) (lo hi f : Int) : Prop := ∀ k, lo ≤ k → k ≤ hi → ow L k = f
open Classical in
/-- the segments behind moves -/
noncomputable def pl (L : List Sg) : List Mv → Option (List Sg)
  | [] => some L
  | m :: r => if Mok m ∧ Own L m.lo m.hi m.f then pl (asg L m.lo m.hi m.t) r else none
/-- what a segment gives, if lo to hi become another's -/
def pcs (lo hi o : Int) (s : Sg) : List Sg :=
  if s.hi < lo ∨ s.lo > hi then [s] else (if s.lo < lo then [⟨s.lo, lo - 1, s.h⟩] else []) ++ [⟨lo, hi, o⟩] ++ (if s.hi > hi then [⟨hi + 1, s.hi, s.h⟩] else [])
theorem pcs_far : ∀ {r : List Sg} {c b lo hi o : Int}, Cov c r b → hi < c → r.flatMap (pcs lo hi o) = r
  | [], c, b, lo, hi, o, _, _ => rfl
  | s :: r, c, b, lo, hi, o, h, hc => by
    have h1 := h.1
    have h2 := h.2.1
    have ih := pcs_far (lo := lo) (o := o) h.2.2 (by omega : hi < s.hi + 1)
    rw [List.flatMap_cons, ih]
    unfold pcs
    rw [if_pos (.inr (by omega))]
    rfl
theorem ow_cons (s : Sg) (r : List Sg) (k : Int) : ow (s :: r) k = if k ≤ s.hi then s.h else ow r k := by simp only [ow]
theorem cut_cov : ∀ {L : List Sg} {a b lo hi f o : Int}, Cov a L b → Alt L → a ≤ lo → lo ≤ hi → hi < b → Own L lo hi f →
    Cov a (L.flatMap (pcs lo hi o)) b ∧ ∀ k, a ≤ k → k < b → ow (L.flatMap (pcs lo hi o)) k = if lo ≤ k ∧ k ≤ hi then o else ow L k
  | [], a, b, lo, hi, f, o, h, _, h1, h2, h3, _ => by
    have : a = b := h
    omega
  | s :: r, a, b, lo, hi, f, o, h, ha, h1, h2, h3, hO => by
    obtain ⟨g1, g2, g3⟩ := h
    have gl := cov_le g3
    by_cases c1 : s.hi < lo
    · have hO' : Own r lo hi f := fun k k1 k2 => by
        have := hO k k1 k2
        rw [ow_cons, if_neg (by omega)] at this
        exact this
      have ha' : Alt r := by
        cases r with
        | nil => trivial
        | cons t r => exact ha.2
      obtain ⟨i1, i2⟩ := cut_cov (o := o) g3 ha' (by omega) h2 h3 hO'
      have e : (s :: r).flatMap (pcs lo hi o) = s :: r.flatMap (pcs lo hi o) := by
        rw [List.flatMap_cons]
        have : pcs lo hi o s = [s] := by unfold pcs; rw [if_pos (.inl c1)]
        rw [this]
        rfl
      rw [e]
      refine ⟨⟨g1, g2, i1⟩, fun k k1 k2 => ?_⟩
      rw [ow_cons, ow_cons]
      by_cases k3 : k ≤ s.hi
      · rw [if_pos k3, if_pos k3, if_neg (by omega)]
      · rw [if_neg k3, if_neg k3]
        exact i2 k (by omega) k2
    · have c2 : hi ≤ s.hi := by
        refine Classical.byContradiction fun hn => ?_
        have e1 := hO lo (by omega) h2
        have e2 := hO (s.hi + 1) (by omega) (by omega)
        rw [ow_cons, if_pos (by omega)] at e1
        rw [ow_cons, if_neg (by omega)] at e2
        cases r with
        | nil => have : s.hi + 1 = b := g3; omega
        | cons t r =>
          have q1 := g3.1
          have q2 := g3.2.1
          rw [ow_cons, if_pos (by omega)] at e2
          exact ha.1 (e1.trans e2.symm)
      have e : (s :: r).flatMap (pcs lo hi o) = (if s.lo < lo then [⟨s.lo, lo - 1, s.h⟩] else []) ++ ([⟨lo, hi, o⟩] ++ ((if s.hi > hi then [⟨hi + 1, s.hi, s.h⟩] else []) ++ r)) := by
        rw [List.flatMap_cons, pcs_far g3 (by omega)]
        unfold pcs
        rw [if_neg (by omega)]
        simp only [List.append_assoc]
      rw [e]
      obtain ⟨A, eA⟩ : ∃ A : List Sg, (if s.lo < lo then [⟨s.lo, lo - 1, s.h⟩] else []) = A := ⟨_, rfl⟩
      obtain ⟨C, eC⟩ : ∃ C : List Sg, (if s.hi > hi then [⟨hi + 1, s.hi, s.h⟩] else []) = C := ⟨_, rfl⟩
      have cA : Cov a A lo ∧ ∀ k, a ≤ k → k < lo → ow A k = s.h := by
        rw [← eA]
        split
        · exact ⟨⟨g1, by show a ≤ lo - 1; omega, by show lo - 1 + 1 = lo; omega⟩, fun k k1 k2 => by rw [ow_cons, if_pos (by show k ≤ lo - 1; omega)]⟩
        · exact ⟨by show a = lo; omega, fun k k1 k2 => by omega⟩
      have cB : Cov lo [⟨lo, hi, o⟩] (hi + 1) := ⟨rfl, h2, rfl⟩
      have cC : Cov (hi + 1) C (s.hi + 1) ∧ ∀ k, hi < k → k ≤ s.hi → ow C k = s.h := by
        rw [← eC]
        split
        · exact ⟨⟨rfl, by show hi + 1 ≤ s.hi; omega, rfl⟩, fun k k1 k2 => by rw [ow_cons, if_pos k2]⟩
        · exact ⟨by show hi + 1 = s.hi + 1; omega, fun k k1 k2 => by omega⟩
      rw [eA, eC]
      refine ⟨cov_append cA.1 (cov_append cB (cov_append cC.1 g3)), fun k k1 k2 => ?_⟩
      have es := ow_cons s r k
      by_cases q1 : k < lo
      · rw [ow_left _ cA.1 k1 q1, cA.2 k k1 q1, if_neg (by omega), es, if_pos (by omega)]
      · rw [ow_right _ cA.1 (by omega)]
        by_cases q2 : k ≤ hi
        · have e9 : ow [⟨lo, hi, o⟩] k = o := by rw [ow_cons, if_pos q2]
          rw [ow_left _ cB (by omega) (by omega), e9, if_pos (by omega)]
        · rw [ow_right _ cB (by omega)]
          by_cases q3 : k ≤ s.hi
          · rw [ow_left _ cC.1 (by omega) (by omega), cC.2 k (by omega) q3, if_neg (by omega), es, if_pos q3]
          · rw [ow_right _ cC.1 (by omega), if_neg (by omega), es, if_neg q3]
theorem cut_asg {L : List Sg} (h : Tab L) {lo hi f o : Int} (h0 : 0 ≤ lo) (h1 : lo ≤ hi) (h2 : hi < 18446744073709551616) (o0 : 0 ≤ o) (o1 : o < 16) (hO : Own L lo hi f) : lays [] (L.flatMap (pcs lo hi o)) = asg L lo hi o := by
  obtain ⟨c1, c2⟩ := cut_cov (o := o) h.cov h.alt h0 h1 h2 hO
  obtain ⟨c3, c4⟩ := lays_cov (A := []) (show Cov 0 [] 0 from rfl) c1
  have af := asg_facts h h0 h1 h2 o0 o1
  refine cov_unique c3 af.1.cov (lays_alt trivial) af.1.alt (fun k k0 k1 => ?_)
  rw [c4 k k0 k1, if_neg (by omega), c2 k k0 k1]
  exact (af.2.1 k k0 k1).symm
end Go.Proofs.YtbifmcadllilhaaGreat.Rg
namespace Go.Proofs.YtbifmcadllilhaaGreat.Rg
open Go.RowKit Go.Shelf Go.Sort
open Go.Proofs.YtbifmcadllilhaaGreat.It
set_option linter.unusedVariables false
end Go.Proofs.YtbifmcadllilhaaGreat.Rg
namespace Go.Proofs.YtbifmcadllilhaaGreat.Rg
open Go.RowKit Go.Shelf Go.Sort
open Go.Proofs.YtbifmcadllilhaaGreat.It
set_option linter.unusedVariables false
/-- the pieces so far, joined -/
def cj (lo hi o : Int) (L : List Sg) (i : Nat) : List Sg := lays [] ((L.take i).flatMap (pcs lo hi o))
theorem pcs_len (lo hi o : Int) (s : Sg) : (pcs lo hi o s).length ≤ 3 := by
  unfold pcs
  split
  · simp
  · split <;> split <;> simp
theorem flat_len (lo hi o : Int) : ∀ L : List Sg, (L.flatMap (pcs lo hi o)).length ≤ 3 * L.length
  | [] => by simp
  | s :: r => by
    have h1 := pcs_len lo hi o s
    have h2 := flat_len lo hi o r
    rw [List.flatMap_cons, List.length_append, List.length_cons]
    omega
theorem cj_len (lo hi o : Int) (L : List Sg) (i : Nat) : (cj lo hi o L i).length ≤ 3 * i := by
  have h1 := lays_le ((L.take i).flatMap (pcs lo hi o)) []
  have h2 := flat_len lo hi o (L.take i)
  rw [List.length_take] at h2
  unfold cj
  simp only [List.length_nil] at h1
  omega
theorem cj_step (lo hi o : Int) {L : List Sg} {i : Nat} {s : Sg} (h : L[i]? = some s) : cj lo hi o L (i + 1) = lays (cj lo hi o L i) (pcs lo hi o s) := by
  unfold cj
  rw [List.take_add_one, h, Option.toList_some, List.flatMap_append]
  simp [lays]
/-- a list that grows by join, beside a box -/
structure Js (w : World) (B : Nat) (c : Array Value) (W : World) (u : Value) (A : List Sg) : Prop where
  own : W.ownsRow w.heap.size 38 3 u A.length (cells A)
  kp : Kp Nu w W
  box : W.heap[B]? = some (.cells c 38 (0, 0))
  ne : ∀ g, u.ownBlock = some g → g ≠ B
theorem lay_le (A : List Sg) (s : Sg) : (lay A s).length ≤ A.length + 1 := by
  rw [lay_len]
  split <;> omega
end Go.Proofs.YtbifmcadllilhaaGreat.Rg
namespace Go.Proofs.YtbifmcadllilhaaGreat.Rg
open Go.RowKit Go.Shelf Go.Sort
open Go.Proofs.YtbifmcadllilhaaGreat.It
set_option linter.unusedVariables false
theorem ow_mem : ∀ {L : List Sg} {a b k : Int} {s : Sg}, Cov a L b → s ∈ L → s.lo ≤ k → k ≤ s.hi → ow L k = s.h
  | [], a, b, k, s, _, hs, _, _ => by cases hs
  | t :: r, a, b, k, s, h, hs, h1, h2 => by
    rw [ow_cons]
    rcases List.mem_cons.1 hs with rfl | hs
    · rw [if_pos h2]
    · have q := cov_mem h.2.2 s hs
      rw [if_neg (by omega)]
      exact ow_mem h.2.2 hs h1 h2
theorem own_iff {L : List Sg} (h : Tab L) {lo hi o : Int} (h0 : 0 ≤ lo) (h1 : lo ≤ hi) (h2 : hi < 18446744073709551616) : (∀ s ∈ L, lo ≤ s.hi → s.lo ≤ hi → s.h = o) ↔ Own L lo hi o := by
  constructor
  · intro hA k k1 k2
    obtain ⟨s, hs, q1, q2, q3, _⟩ := plc_facts h.cov (by omega : 0 ≤ k) (by omega)
    rw [← q3]
    exact hA s (List.mem_of_getElem? hs) (by omega) (by omega)
  · intro hO s hs q1 q2
    have := cov_mem h.cov s hs
    by_cases q : s.lo ≤ lo
    · rw [← ow_mem h.cov hs q q1]
      exact hO lo (by omega) h1
    · rw [← ow_mem h.cov hs (Int.le_refl _) this.2.1]
      exact hO s.lo (by omega) q2
end Go.Proofs.YtbifmcadllilhaaGreat.Rg
namespace Go.Proofs.YtbifmcadllilhaaGreat.Rg
open Go.RowKit Go.Shelf Go.Sort
open Go.Proofs.YtbifmcadllilhaaGreat.It
set_option linter.unusedVariables false
def cellsM (m : Mv) : List Value := [.int .u8 m.f, .int .u8 m.t, .int .u64 m.lo, .int .u64 m.hi, .int .i64 m.n]
structure MvAt (w : World) (b o : Nat) (m : Mv) : Prop where
  c0 : w.cell? ⟨b, o, none⟩ = some (.int .u8 m.f)
  c1 : w.cell? ⟨b, o + 1, none⟩ = some (.int .u8 m.t)
  c2 : w.cell? ⟨b, o + 2, none⟩ = some (.int .u64 m.lo)
  c3 : w.cell? ⟨b, o + 3, none⟩ = some (.int .u64 m.hi)
  c4 : w.cell? ⟨b, o + 4, none⟩ = some (.int .i64 m.n)
  fit : MvB m
/-- moves in memory -/
def Mvs (w : World) (u : Value) (ms : List Mv) : Prop := ∃ a cap, u = .slice a ms.length cap ∧ ∀ (i : Nat) m, ms[i]? = some m → ∃ b o, a = some ⟨b, o, none⟩ ∧ MvAt w b (o + i * 5) m
theorem MvAt.nu {w w' : World} {b o : Nat} {m : Mv} (h : MvAt w b o m) (k : Kp Nu w w') : MvAt w' b o m := ⟨cell_nu h.c0 k, cell_nu h.c1 k, cell_nu h.c2 k, cell_nu h.c3 k, cell_nu h.c4 k, h.fit⟩
theorem Mvs.nu {w w' : World} {u : Value} {ms : List Mv} (h : Mvs w u ms) (k : Kp Nu w w') : Mvs w' u ms := by
  obtain ⟨a, cap, h0, h1⟩ := h
  refine ⟨a, cap, h0, fun i m hm => ?_⟩
  obtain ⟨b, o, h2, h3⟩ := h1 i m hm
  exact ⟨b, o, h2, h3.nu k⟩
theorem Mvs.at_ {w : World} {a : Option Addr} {n cap : Nat} {ms : List Mv} (h : Mvs w (.slice a n cap) ms) {i : Nat} {m : Mv} (hm : ms[i]? = some m) : ∃ b o, a = some ⟨b, o, none⟩ ∧ MvAt w b (o + i * 5) m := by
  obtain ⟨a', cap', h0, h1⟩ := h
  simp only [Value.slice.injEq] at h0
  obtain ⟨rfl, _, _⟩ := h0
  exact h1 i m hm
theorem cell5 {w : World} {b : Nat} {x0 x1 x2 x3 x4 : Value} {t : TypeId} (h : w.heap[b]? = some (.cells #[x0, x1, x2, x3, x4] t (0, 0))) : w.cell? ⟨b, 0, none⟩ = some x0 ∧ w.cell? ⟨b, 1, none⟩ = some x1 ∧ w.cell? ⟨b, 2, none⟩ = some x2 ∧ w.cell? ⟨b, 3, none⟩ = some x3 ∧ w.cell? ⟨b, 4, none⟩ = some x4 := by
  refine ⟨?_, ?_, ?_, ?_, ?_⟩ <;> simp [World.cell?, h]
/-- what Play answers -/
def PlR (w w' : World) (M : List Sg) (ms : List Mv) (v : Value) (c : Int) : Prop :=
  (¬ Ldd M ∧ v = .slice none 0 0 ∧ c = 151) ∨ (Ldd M ∧ pl (lays [] M) ms = none ∧ v = .slice none 0 0 ∧ c = 152) ∨
  (Ldd M ∧ c = 0 ∧ ∃ R, pl (lays [] M) ms = some R ∧ R.length ≤ 16384 ∧ w'.ownsRow w.heap.size 38 3 v R.length (cells R))
open Classical in
theorem pl_yes {L : List Sg} {m : Mv} {r : List Mv} (h : Mok m ∧ Own L m.lo m.hi m.f) : pl L (m :: r) = pl (asg L m.lo m.hi m.t) r := by
  show (if _ then _ else _) = _
  rw [if_pos h]
open Classical in
theorem pl_no {L : List Sg} {m : Mv} {r : List Mv} (h : ¬ (Mok m ∧ Own L m.lo m.hi m.f)) : pl L (m :: r) = none := by
  show (if _ then _ else _) = _
  rw [if_neg h]
theorem asg_len {L : List Sg} (h : Tab L) {lo hi o : Int} (h0 : 0 ≤ lo) (h1 : lo ≤ hi) (h2 : hi < 18446744073709551616) (o0 : 0 ≤ o) (o1 : o < 16) : (asg L lo hi o).length ≤ L.length + 2 := by
  have a := (asg_facts h h0 h1 h2 o0 o1).2.2
  have b := cost_range h o h0 h1 h2
  omega
theorem Tab.sgb {L : List Sg} (h : Tab L) : ∀ s ∈ L, SgB s := fun s hs => by
  have a := cov_mem h.cov s hs
  have b := h.hs s hs
  exact ⟨by omega, by omega, by omega, by omega, b.1, by omega⟩
end Go.Proofs.YtbifmcadllilhaaGreat.Rg
namespace Go.Proofs.YtbifmcadllilhaaGreat.Rg
open Go.RowKit Go.Shelf Go.Sort
open Go.Proofs.YtbifmcadllilhaaGreat.It
set_option linter.unusedVariables false
theorem new_two (w : World) (A B : Obj) {W : World} (h : (w.alloc A).alloc B = W) : Kp Nu w W ∧ W.heap[w.heap.size]? = some A ∧ W.heap[w.heap.size + 1]? = some B := by
  subst h
  refine ⟨(Kp.alloc w _ Nu).andAlloc _, (Below.heap_alloc _ _ _ (by simp)).trans (heap_alloc_new w _), ?_⟩
  have h := heap_alloc_new (w.alloc A) B
  rw [World.size_alloc] at h
  exact h
set_option maxRecDepth 100000 in
set_option maxHeartbeats 2000000 in
theorem segAt73 (w : World) (u : Value) (L : List Sg) (lim : Int) (hu : Sgs w u L) (hT : Tab L) (hl : L.length ≤ 100000) (key : Int) (k0 : 0 ≤ key) (k1 : key < 18446744073709551616) (s : Sg) (hs : L[plc L key]? = some s) :
    Calls Tryz.prog 11 #[.agg #[.int .i64 lim, u], .int .u64 key] w fun e w' => e = .returned (.agg #[.int .u64 s.lo, .int .u64 s.hi, .int .u8 s.h]) ∧ Kp Nu w w' := by
  have mixed : Tryz.prog.follows .mixedOrders = true := by kernel_rfl
  obtain ⟨ad, cap, e1⟩ := hu.slice
  obtain ⟨N, hN⟩ : ∃ N, L.length = N := ⟨_, rfl⟩
  rw [hN] at e1 hl
  have HN := hide hN
  obtain ⟨w1, hw1⟩ : ∃ w1, (w.alloc (.cells #[.int .i64 lim, u] 35)).alloc (.cells #[.int .u64 0, .int .u64 0, .int .u8 0] 38) = w1 := ⟨_, rfl⟩
  obtain ⟨K1, b1, b2⟩ := new_two w _ _ hw1
  have HK1 := hide K1
  have HB1 := hide b1
  have HB2 := hide b2
  obtain ⟨_, cb0⟩ := cell2' b1
  have HT := hide hT
  have HS := hide hs
  have HC := hide (hu.nu K1)
  have hpN : plc L key < N := by rw [← hN]; exact hT.plc_lt k0 k1
  have hNI : (N : Int) ≤ 100000 := by omega
  subst e1
  clear hu hN K1 b1 b2 hT hs
  go_enter Tryz.func11, Tryz.ntmps11
  go_wp2_with fail
  go_loopw [5] (fun i wr => ∃ k : Nat, i = .int .i64 (k : Int) ∧ k ≤ plc L key ∧ wr = w1) (fun i _ => N - (intOf i).toNat)
  case atStart => exact ⟨0, rfl, Nat.zero_le _, rfl⟩
  case round =>
    obtain ⟨k, rfl, hk, rfl⟩ := hrel
    have hkN : k < N := by omega
    have hkL : k < L.length := by rw [HN.out]; exact hkN
    obtain ⟨t, ht⟩ : ∃ t, L[k]? = some t := ⟨_, List.getElem?_eq_getElem hkL⟩
    obtain ⟨bb, oo, rfl, kk⟩ := HC.out.at_ ht
    obtain ⟨c0, c1, c2, hf⟩ := kk
    have hltI : (k : Int) < (N : Int) := by omega
    have hkz : (0 : Int) ≤ (k : Int) := by omega
    have etk : (k : Int).toNat = k := by omega
    have hiff := plc_iff (k := key) HT.out.cov k t ht
    obtain ⟨s', hs', q1, q2, q3, q4⟩ := plc_facts (k := key) HT.out.cov k0 k1
    clear q3 q4 hf
    rw [HS.out] at hs'
    obtain rfl := Option.some.inj hs'
    by_cases hkp : k = plc L key
    · subst hkp
      obtain rfl := Option.some.inj (ht.symm.trans HS.out)
      have f0 := free3 HB2.out 0
      have f1 := free3 HB2.out 1
      have f2 := free3 HB2.out 2
      obtain ⟨g0, g1, g2⟩ := cell3 HB2.out
      clear ht hs' hiff
      go_wp2
      have hb1 : (wr.setCell ⟨w.heap.size + 1, 0, none⟩ (.int .u64 t.lo)).heap[w.heap.size + 1]? = some (.cells #[.int .u64 t.lo, .int .u64 0, .int .u8 0] 38 (0, 0)) := set3 HB2.out 0 _
      have hb2 : ((wr.setCell ⟨w.heap.size + 1, 0, none⟩ (.int .u64 t.lo)).setCell ⟨w.heap.size + 1, 1, none⟩ (.int .u64 t.hi)).heap[w.heap.size + 1]? = some (.cells #[.int .u64 t.lo, .int .u64 t.hi, .int .u8 0] 38 (0, 0)) := set3 hb1 1 _
      have hb3 : (((wr.setCell ⟨w.heap.size + 1, 0, none⟩ (.int .u64 t.lo)).setCell ⟨w.heap.size + 1, 1, none⟩ (.int .u64 t.hi)).setCell ⟨w.heap.size + 1, 2, none⟩ (.int .u8 t.h)).heap[w.heap.size + 1]? = some (.cells #[.int .u64 t.lo, .int .u64 t.hi, .int .u8 t.h] 38 (0, 0)) := set3 hb2 2 _
      have z0 := (cell3 hb1).1
      have z1 := (cell3 hb2).2.1
      have z2 := (cell3 hb2).1
      obtain ⟨y0, y1, y2⟩ := cell3 hb3
      exact bodyPost_ret (v := .agg #[.int .u64 t.lo, .int .u64 t.hi, .int .u8 t.h]) (by simp [results, Tryz.results11, go_sem, y0, y1, y2]) rfl ⟨rfl, ((HK1.out.andSet _ _ (.inl (by simp))).andSet _ _ (.inl (by simp))).andSet _ _ (.inl (by simp))⟩
    · have hlt2 : k < plc L key := by omega
      have hgt : ¬ key ≤ t.hi := fun h => by have := hiff.1 h; omega
      have hlo : t.lo ≤ key := by
        have h1 := (cov_mem HT.out.cov t (List.mem_of_getElem? ht)).2.1
        omega
      clear ht hs' hiff
      go_wp2
      exact ⟨⟨k + 1, by go_num, by omega, trivial⟩, by simp [intOf]; omega⟩
end Go.Proofs.YtbifmcadllilhaaGreat.Rg
namespace Go.Proofs.YtbifmcadllilhaaGreat.Rg
open Go.RowKit Go.Shelf Go.Sort
open Go.Proofs.YtbifmcadllilhaaGreat.It
set_option linter.unusedVariables false
/-- a call at a step of a region that draws -/
theorem step_callL {P : Program} {ops : Array Oper} {o : Oper} {a : Act} {w : World} {K : Act → World → Prop} {Q : Exit → Act → World → Prop} {E : Prop} (hgd : o.guard = none) (f : FuncId) (args : Array Value) (hx : (execOp a.eval o).run P w = .ok (.enter f args) w) (R : Value → World → Prop) (hC : Calls P f args w fun e w' => ∃ v, e = .returned v ∧ R v w') (h : ∀ v w', R v w' → K (a.put o.dst v) w') :
    if Region.wanted o (yielded ops a.tmps) = true then Oper.wp P o a w K Q else E := by
  have hw : Region.wanted o (yielded ops a.tmps) = true := by simp [Region.wanted, hgd]
  rw [if_pos hw]
  unfold Oper.wp
  rw [hx, Oper.upon_enter]
  refine hC.mono ?_
  rintro e w' ⟨v, rfl, hr⟩
  exact h v w' hr
theorem three_set {w w7 : World} (hk : Kp Nu w w7) {Y : Nat} (hY : w.heap.size ≤ Y) {c0 c1 c2 : Value} (bY : w7.heap[Y]? = some (.cells #[c0, c1, c2] 38 (0, 0))) (u v x : Value) {P : Prop}
    (h : ∀ w8, ((w7.setCell ⟨Y, 0, none⟩ u).setCell ⟨Y, 1, none⟩ v).setCell ⟨Y, 2, none⟩ x = w8 → Kp Nu w w8 → w8.heap[Y]? = some (.cells #[u, v, x] 38 (0, 0)) → P) : P :=
  h _ rfl (((hk.andSet _ _ (.inl hY)).andSet _ _ (.inl hY)).andSet _ _ (.inl hY)) (set3 (set3 (set3 bY 0 u) 1 v) 2 x)
theorem three_new {w w7 : World} (hk : Kp Nu w w7) (u v x : Value) {P : Prop} (h : ∀ w8, w7.alloc (.cells #[u, v, x] 38) = w8 → Kp Nu w w8 → w8.heap[w7.heap.size]? = some (.cells #[u, v, x] 38 (0, 0)) → P) : P :=
  h _ rfl (hk.andAlloc _) (heap_alloc_new _ _)
theorem five_set {W : World} {b : Nat} {c0 c1 c2 c3 c4 : Value} {t : TypeId} (h : W.heap[b]? = some (.cells #[c0, c1, c2, c3, c4] t (0, 0))) (v0 v1 v2 v3 v4 : Value) :
    (((((W.setCell ⟨b, 0, none⟩ v0).setCell ⟨b, 1, none⟩ v1).setCell ⟨b, 2, none⟩ v2).setCell ⟨b, 3, none⟩ v3).setCell ⟨b, 4, none⟩ v4).heap[b]? = some (.cells #[v0, v1, v2, v3, v4] t (0, 0)) :=
  set3 (set3 (set3 (set3 (set3 h 0 v0) 1 v1) 2 v2) 3 v3) 4 v4
/-- what is taken of a segment: p keys, from lo on -/
structure Tkn (ks : List Int) (s : Sg) (T n p : Nat) (lo : Int) : Prop where
  pn : p ≤ n
  p1 : 1 ≤ p
  pT : p ≤ T + 1
  all : ∀ (j : Nat) x, j < p → ks[T - j]? = some x → s.lo ≤ x
  how : (lo = s.lo ∧ (p = T + 1 ∨ (p ≤ T ∧ ∀ x, ks[T - p]? = some x → x < s.lo))) ∨ (p = n ∧ p ≤ T ∧ (∀ x, ks[T - p]? = some x → s.lo ≤ x) ∧ ks[T - p + 1]? = some lo)
end Go.Proofs.YtbifmcadllilhaaGreat.Rg
