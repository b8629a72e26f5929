import Derived.Test.YtbifmcadllilhaaGreatQtB
namespace Go.Proofs.YtbifmcadllilhaaGreat.Rg
open Go.RowKit Go.Shelf Go.Sort
set_option linter.unusedVariables false
def ucs8 (l : List Int) : List Value := l.map (Value.int .u8)
theorem ucs8_len (l : List Int) : (ucs8 l).length = l.length := by simp [ucs8]
/-- the owners' tree in memory -/
structure Tr (w : World) (B pb g n c wd : Nat) (t : List Int) : Prop where
  own : w.ownsRow B 36 1 (.slice (some ⟨g, 0, none⟩) n c) n (ucs8 t)
  len : t.length = n
  ne : g ≠ pb
  wid : w.cell? ⟨pb, 0, none⟩ = some (.int .i64 (wd : Int))
  row : w.cell? ⟨pb, 1, none⟩ = some (.slice (some ⟨g, 0, none⟩) n c)
theorem Tr.at_ {w : World} {B pb g n c wd : Nat} {t : List Int} (h : Tr w B pb g n c wd t) {k : Nat} (hk : k < n) : w.cell? ⟨g, k, none⟩ = some (.int .u8 (gt t k)) ∧ w.frozen? ⟨g, k, none⟩ = false := by
  have hl := h.len
  have ho := h.own
  have e : (ucs8 t).length = n := by rw [ucs8_len]; exact hl
  rw [← e] at ho
  have hi : (ucs8 t)[k]? = some (.int .u8 (gt t k)) := by unfold ucs8; rw [List.getElem?_map, gt_get (by omega)]; rfl
  obtain ⟨r, cap, e2, _, h1, cur, h2⟩ := row1_at ho hi
  simp only [Value.slice.injEq, Option.some.injEq, Addr.mk.injEq, and_true] at e2
  obtain ⟨rfl, _⟩ := e2
  exact ⟨h1, free3 h2 k⟩
theorem Tr.set {w : World} {B pb g n c wd : Nat} {t : List Int} (h : Tr w B pb g n c wd t) {k : Nat} (hk : k < n) (x : Int) : Tr (w.setCell ⟨g, k, none⟩ (.int .u8 x)) B pb g n c wd (t.set k x) := by
  have hne := h.ne
  refine ⟨?_, by rw [List.length_set]; exact h.len, hne, ?_, ?_⟩
  · have e : ucs8 (t.set k x) = (ucs8 t).set k (.int .u8 x) := by unfold ucs8; rw [List.map_set]
    rw [e]
    exact own_put h.own k _ (by rw [ucs8_len, h.len]; exact hk)
  · rw [World.cell?_setCell_other _ _ _ _ (by intro e; simp at e <;> omega)]; exact h.wid
  · rw [World.cell?_setCell_other _ _ _ _ (by intro e; simp at e <;> omega)]; exact h.row
theorem Tr.drew {w : World} {B pb g n c wd : Nat} {t : List Int} (h : Tr w B pb g n c wd t) : Tr w.drew B pb g n c wd t := ⟨h.own, h.len, h.ne, h.wid, h.row⟩
/-- what a node says of the two below it -/
def gv (t : List Int) (m : Nat) : Int := if gt t (2 * m) ≠ gt t (2 * m + 1) then 255 else gt t (2 * m)
set_option maxRecDepth 100000 in
set_option maxHeartbeats 2000000 in
theorem gather88 (w : World) (B pb g n c wd : Nat) (t : List Int) (m : Nat) (hT : Tr w B pb g n c wd t) (hm0 : 0 < m) (hm : 2 * m + 1 < n) (hn : n ≤ 1000000) :
    Calls Tryz.prog 74 #[.pointer (some ⟨pb, 0, none⟩), .int .i64 (m : Int)] w fun e w' => e = .returned (.tuple #[]) ∧ ∃ t', Tr w' B pb g n c wd t' ∧ (∀ k, k ≠ m → gt t' k = gt t k) ∧ gt t' m = gv t m ∧ Kp (fun k => k = g) w w' := by
  have mixed : Tryz.prog.follows .mixedOrders = true := by kernel_rfl
  have m0 : (0 : Int) ≤ (m : Int) := by omega
  have mn : (m : Int) < (n : Int) := by omega
  have em : (m : Int).toNat = m := by omega
  obtain ⟨p, hp⟩ : ∃ p : Nat, p = 2 * m := ⟨_, rfl⟩
  have v1 : IntKind.i64.wrap (2 * (m : Int)) = (p : Int) := by rw [IntKind.wrap_i64]; omega
  have v2 : 2 * (m : Int) = (p : Int) := by omega
  have p0 : (0 : Int) ≤ (p : Int) := by omega
  have pn : (p : Int) < (n : Int) := by omega
  have ep : (p : Int).toNat = p := by omega
  have v3 : IntKind.i64.wrap ((p : Int) + 1) = (p : Int) + 1 := by rw [IntKind.wrap_i64]; omega
  have q0 : (0 : Int) ≤ (p : Int) + 1 := by omega
  have qn : (p : Int) + 1 < (n : Int) := by omega
  have eq : ((p : Int) + 1).toNat = p + 1 := by omega
  have hl := hT.len
  have r1 := hT.row
  obtain ⟨y1, z1⟩ := hT.at_ (k := m) (by omega)
  obtain ⟨y2, z2⟩ := hT.at_ (k := p) (by omega)
  have H1 := hT.set (k := m) (by omega) (gt t p)
  have g1 : ∀ k, gt (t.set m (gt t p)) k = if k = m then gt t p else gt t k := fun k => gt_set t _ (by omega)
  obtain ⟨y3, z3⟩ := H1.drew.at_ (k := p) (by omega)
  obtain ⟨y4, z4⟩ := H1.drew.at_ (k := p + 1) (by omega)
  obtain ⟨y5, z5⟩ := H1.drew.at_ (k := m) (by omega)
  have r2 := H1.drew.row
  rw [g1, if_neg (by omega)] at y3 y4
  have HT := hide (And.intro hT H1)
  have HP := hide hp
  have HG := hide g1
  have k1 : Kp (fun k => k = g) w (w.setCell ⟨g, m, none⟩ (.int .u8 (gt t p))).drew := ((Kp.refl (fun k => k = g) w).andSet ⟨g, m, none⟩ _ (.inr rfl)).drew
  clear hT H1 g1 hp
  go_enter Tryz.func74, Tryz.ntmps74
  go_wp2_with fail
  go_region
  obtain ⟨W, hW⟩ : ∃ W, (w.setCell ⟨g, m, none⟩ (.int .u8 (gt t p))).drew = W := ⟨_, rfl⟩
  have HT2 : Hid (Tr W B pb g n c wd (t.set m (gt t p))) := by rw [← hW]; exact hide HT.out.2.drew
  rw [hW] at k1 y3 z3 y4 z4 y5 z5 r2 ⊢
  clear hW y1 z1 y2 z2 r1
  by_cases he : gt t p = gt t (p + 1)
  · have db : (gt t p != gt t (p + 1)) = false := by simp [he]
    go_wp2_with fail
    go_region
    go_wp2
    go_end0
    have hp := HP.out
    refine ⟨rfl, _, HT2.out.drew, fun k hk => by rw [HG.out, if_neg hk], ?_, k1.drew⟩
    rw [HG.out, if_pos rfl, gv, ← hp, if_neg (by simp [he])]
  · have db : (gt t p != gt t (p + 1)) = true := by simpa using he
    go_wp2_with fail
    go_region
    go_wp2_with fail
    go_end0
    have hp := HP.out
    have hl2 := HT2.out.len
    refine ⟨rfl, _, (HT2.out.set (k := m) (by omega) 255).drew, fun k hk => ?_, ?_, (k1.andSet ⟨g, m, none⟩ _ (.inr rfl)).drew⟩
    · rw [gt_set _ _ (by omega), if_neg hk, HG.out, if_neg hk]
    · rw [gt_set _ _ (by omega), if_pos rfl, gv, ← hp, if_pos he]
end Go.Proofs.YtbifmcadllilhaaGreat.Rg
namespace Go.Proofs.YtbifmcadllilhaaGreat.Rg
open Go.RowKit Go.Shelf Go.Sort
set_option linter.unusedVariables false
/-- what handDown leaves -/
structure Hd (t t' : List Int) (m : Nat) : Prop where
  far : ∀ k, k ≠ 2 * m → k ≠ 2 * m + 1 → gt t' k = gt t k
  mix : gt t m = 255 → gt t' (2 * m) = gt t (2 * m) ∧ gt t' (2 * m + 1) = gt t (2 * m + 1)
  one : gt t m ≠ 255 → gt t' (2 * m) = gt t m ∧ gt t' (2 * m + 1) = gt t m
set_option maxRecDepth 100000 in
set_option maxHeartbeats 2000000 in
theorem hand93 (w : World) (B pb g n c wd : Nat) (t : List Int) (m : Nat) (hT : Tr w B pb g n c wd t) (hm0 : 0 < m) (hm : 2 * m + 1 < n) (hn : n ≤ 1000000) :
    Calls Tryz.prog 79 #[.pointer (some ⟨pb, 0, none⟩), .int .i64 (m : Int)] w fun e w' => e = .returned (.tuple #[]) ∧ ∃ t', Tr w' B pb g n c wd t' ∧ Hd t t' m ∧ Kp (fun k => k = g) w w' := by
  have mixed : Tryz.prog.follows .mixedOrders = true := by kernel_rfl
  have m0 : (0 : Int) ≤ (m : Int) := by omega
  have mn : (m : Int) < (n : Int) := by omega
  have em : (m : Int).toNat = m := by omega
  obtain ⟨p, hp⟩ : ∃ p : Nat, p = 2 * m := ⟨_, rfl⟩
  have v1 : IntKind.i64.wrap (2 * (m : Int)) = (p : Int) := by rw [IntKind.wrap_i64]; omega
  have v2 : 2 * (m : Int) = (p : Int) := by omega
  have p0 : (0 : Int) ≤ (p : Int) := by omega
  have pn : (p : Int) < (n : Int) := by omega
  have ep : (p : Int).toNat = p := by omega
  have v3 : IntKind.i64.wrap ((p : Int) + 1) = (p : Int) + 1 := by rw [IntKind.wrap_i64]; omega
  have q0 : (0 : Int) ≤ (p : Int) + 1 := by omega
  have qn : (p : Int) + 1 < (n : Int) := by omega
  have eq : ((p : Int) + 1).toNat = p + 1 := by omega
  have hl := hT.len
  have r1 := hT.row
  obtain ⟨y1, z1⟩ := hT.at_ (k := m) (by omega)
  obtain ⟨y2, z2⟩ := hT.at_ (k := p) (by omega)
  obtain ⟨y3, z3⟩ := hT.at_ (k := p + 1) (by omega)
  have H1 := hT.set (k := p) (by omega) (gt t m)
  have r2 := H1.row
  obtain ⟨y4, z4⟩ := H1.at_ (k := p + 1) (by omega)
  have H2 := H1.set (k := p + 1) (by omega) (gt t m)
  have g1 : ∀ k, gt ((t.set p (gt t m)).set (p + 1) (gt t m)) k = if k = p + 1 then gt t m else if k = p then gt t m else gt t k := fun k => by
    rw [gt_set _ _ (by rw [List.length_set]; omega), gt_set _ _ (by omega)]
  have HT := hide (And.intro hT H2)
  have HP := hide hp
  have HG := hide g1
  clear hT H1 H2 g1 hp
  by_cases he : gt t m = 255
  · have db : (gt t m != 255) = false := by simp [he]
    go_enter Tryz.func79, Tryz.ntmps79
    go_wp2
    go_end0
    exact ⟨rfl, t, HT.out.1, ⟨fun _ _ _ => rfl, fun _ => ⟨rfl, rfl⟩, fun e => absurd he e⟩, Kp.refl _ _⟩
  · have db : (gt t m != 255) = true := by simpa using he
    go_enter Tryz.func79, Tryz.ntmps79
    go_wp2_with fail
    go_region
    go_wp2
    go_end0
    have hp := HP.out
    refine ⟨rfl, _, HT.out.2.drew, ⟨fun k k1 k2 => ?_, fun e => absurd e he, fun _ => ⟨?_, ?_⟩⟩, (((Kp.refl (fun k => k = g) w).andSet ⟨g, p, none⟩ _ (.inr rfl)).andSet ⟨g, p + 1, none⟩ _ (.inr rfl)).drew⟩
    · rw [HG.out, if_neg (by omega), if_neg (by omega)]
    · rw [HG.out, if_neg (by omega), if_pos (by omega)]
    · rw [HG.out, if_pos (by omega)]
end Go.Proofs.YtbifmcadllilhaaGreat.Rg
namespace Go.Proofs.YtbifmcadllilhaaGreat.Rg
open Go.RowKit Go.Shelf Go.Sort
set_option linter.unusedVariables false
/-- where a node says mixed, the places below it are not all one host's -/
def Mxd (t : List Int) : Nat → Nat → Prop
  | 0, n => gt t n ≠ 255
  | d + 1, n => gt t n ≠ 255 ∨ (Mxd t d (2 * n) ∧ Mxd t d (2 * n + 1) ∧ ∀ h, ∃ q, q < 2 ^ (d + 1) ∧ who t (d + 1) n q ≠ h)
theorem mxd_one {t : List Int} {n : Nat} (h : gt t n ≠ 255) : ∀ d, Mxd t d n
  | 0 => h
  | d + 1 => .inl h
theorem mxd_mixed {t : List Int} {d n : Nat} (h : Mxd t d n) (e : gt t n = 255) (x : Int) : ∃ q, q < 2 ^ d ∧ who t d n q ≠ x := by
  cases d with
  | zero => exact absurd e h
  | succ d =>
    rcases h with h | h
    · exact absurd e h
    · exact h.2.2 x
theorem mxd_same {t t' : List Int} : ∀ {d n : Nat}, (∀ k, Below_ d n k → gt t' k = gt t k) → Mxd t d n → Mxd t' d n
  | 0, n, h, hm => by unfold Mxd at hm ⊢; rw [h n (below_self _ _)]; exact hm
  | d + 1, n, h, hm => by
    unfold Mxd at hm ⊢
    rw [h n (below_self _ _)]
    rcases hm with hm | ⟨h1, h2, h3⟩
    · exact .inl hm
    · refine .inr ⟨mxd_same (fun k hk => h k (below_left hk)) h1, mxd_same (fun k hk => h k (below_right hk)) h2, fun x => ?_⟩
      obtain ⟨q, q1, q2⟩ := h3 x
      exact ⟨q, q1, by rw [who_same h]; exact q2⟩
theorem mxd_left {t : List Int} {d n : Nat} (h : Mxd t (d + 1) n) (e : gt t n = 255) : Mxd t d (2 * n) := by
  rcases h with h | h
  · exact absurd e h
  · exact h.1
theorem mxd_right {t : List Int} {d n : Nat} (h : Mxd t (d + 1) n) (e : gt t n = 255) : Mxd t d (2 * n + 1) := by
  rcases h with h | h
  · exact absurd e h
  · exact h.2.1
theorem mxd_gather {t t' : List Int} {d n : Nat} (hn : 0 < n) (hs : ∀ k, k ≠ n → gt t' k = gt t k) (hv : gt t' n = gv t n) (hl : Mxd t d (2 * n)) (hr : Mxd t d (2 * n + 1)) : Mxd t' (d + 1) n := by
  have hp := Nat.two_pow_pos d
  have e2 : 2 ^ (d + 1) = 2 ^ d + 2 ^ d := by rw [Nat.pow_succ]; omega
  have hw := fun q => who_gather (d := d) hn hs hv q
  unfold gv at hv
  unfold Mxd
  have L : Mxd t' d (2 * n) := mxd_same (fun k hk => hs k (by have := below_gt hk (n := n) (by omega); omega)) hl
  have R : Mxd t' d (2 * n + 1) := mxd_same (fun k hk => hs k (by have := below_gt hk (n := n) (by omega); omega)) hr
  have useL : gt t (2 * n) = 255 → ∀ h, ∃ q, q < 2 ^ (d + 1) ∧ who t' (d + 1) n q ≠ h := fun e h => by
    obtain ⟨q, q1, q2⟩ := mxd_mixed hl e h
    exact ⟨q, by omega, by rw [hw, if_pos q1]; exact q2⟩
  have useR : gt t (2 * n + 1) = 255 → ∀ h, ∃ q, q < 2 ^ (d + 1) ∧ who t' (d + 1) n q ≠ h := fun e h => by
    obtain ⟨q, q1, q2⟩ := mxd_mixed hr e h
    exact ⟨q + 2 ^ d, by omega, by rw [hw, if_neg (by omega), Nat.add_sub_cancel]; exact q2⟩
  by_cases c : gt t (2 * n) = gt t (2 * n + 1)
  · rw [if_neg (by simp [c])] at hv
    by_cases e : gt t (2 * n) = 255
    · exact .inr ⟨L, R, useL e⟩
    · exact .inl (by rw [hv]; exact e)
  · refine .inr ⟨L, R, ?_⟩
    by_cases e : gt t (2 * n) = 255
    · exact useL e
    by_cases f : gt t (2 * n + 1) = 255
    · exact useR f
    intro h
    by_cases g : gt t (2 * n) = h
    · exact ⟨2 ^ d, by omega, by rw [hw, if_neg (by omega), who_all f]; rw [← g]; exact fun x => c x.symm⟩
    · exact ⟨0, by omega, by rw [hw, if_pos hp, who_all e]; exact g⟩
/-- what giving leaves below a node -/
structure Gvn (t t' : List Int) (d m f : Nat) (first last : Nat) (host : Int) : Prop where
  far : ∀ k, ¬ Below_ d m k → gt t' k = gt t k
  mxd : Mxd t' d m
  now : ∀ q, q < 2 ^ d → who t' d m q = if first ≤ f + q ∧ f + q ≤ last then host else who t d m q
theorem Gvn.apart {t : List Int} {d m f first last : Nat} {host : Int} (h : Mxd t d m) (ha : last < f ∨ f + 2 ^ d ≤ first) : Gvn t t d m f first last host :=
  ⟨fun _ _ => rfl, h, fun q hq => by rw [if_neg (by omega)]⟩
theorem Gvn.within {t : List Int} {d m f first last : Nat} {host : Int} (hm : m < t.length) (hh : host ≠ 255) (h1 : first ≤ f) (h2 : f + 2 ^ d ≤ last + 1) : Gvn t (t.set m host) d m f first last host := by
  have g1 : gt (t.set m host) m = host := by rw [gt_set _ _ hm, if_pos rfl]
  exact ⟨fun k hk => by
    have : k ≠ m := fun e => hk (by rw [e]; exact below_self _ _)
    rw [gt_set _ _ hm, if_neg this], mxd_one (by rw [g1]; exact hh) d, fun q hq => by rw [who_all (by rw [g1]; exact hh), g1, if_pos (by omega)]⟩
theorem Gvn.node {t t1 t2 t3 t4 : List Int} {d m f first last : Nat} {host : Int} (hm : 0 < m) (hM : Mxd t (d + 1) m) (h1 : Hd t t1 m) (h2 : Gvn t1 t2 d (2 * m) f first last host) (h3 : Gvn t2 t3 d (2 * m + 1) (f + 2 ^ d) first last host) (h4 : ∀ k, k ≠ m → gt t4 k = gt t3 k) (h5 : gt t4 m = gv t3 m) : Gvn t t4 (d + 1) m f first last host := by
  have e2 : 2 ^ (d + 1) = 2 ^ d + 2 ^ d := by rw [Nat.pow_succ]; omega
  have L3 : Mxd t3 d (2 * m) := mxd_same (fun k hk => h3.far k (fun c => below_apart hm hk c)) h2.mxd
  refine ⟨fun k hk => ?_, mxd_gather hm h4 h5 L3 h3.mxd, fun q hq => ?_⟩
  · have n1 : k ≠ m := fun e => hk (by rw [e]; exact below_self _ _)
    rw [h4 k n1, h3.far k (fun c => hk (below_right c)), h2.far k (fun c => hk (below_left c))]
    exact h1.far k (fun e => hk (by rw [e]; exact below_left (below_self _ _))) (fun e => hk (by rw [e]; exact below_right (below_self _ _)))
  · rw [who_gather hm h4 h5 q, who_hand hm h1.far h1.mix h1.one q]
    by_cases c : q < 2 ^ d
    · rw [if_pos c, if_pos c, who_same (t := t2) (t' := t3) (fun k hk => h3.far k (fun c => below_apart hm hk c)), h2.now q c]
    · rw [if_neg c, if_neg c, h3.now _ (by omega), who_same (t := t1) (t' := t2) (fun k hk => h2.far k (fun c => below_apart hm c hk)), show f + 2 ^ d + (q - 2 ^ d) = f + q by omega]
/-- all places of a run below a node are a host's -/
def Alls (t : List Int) (d m f first last : Nat) (host : Int) : Prop := ∀ q, q < 2 ^ d → first ≤ f + q → f + q ≤ last → who t d m q = host
theorem alls_apart {t : List Int} {d m f first last : Nat} {host : Int} (ha : last < f ∨ f + 2 ^ d ≤ first) : Alls t d m f first last host := fun q h1 h2 h3 => by omega
theorem alls_one {t : List Int} {d m f first last : Nat} {host : Int} (h : gt t m ≠ 255) (hf : first ≤ last) (ha : ¬ (last < f ∨ f + 2 ^ d ≤ first)) : Alls t d m f first last host ↔ gt t m = host := by
  constructor
  · intro hA
    have hp := Nat.two_pow_pos d
    have := hA (max first f - f) (by omega) (by omega) (by omega)
    rw [who_all h] at this
    exact this
  · intro e q _ _ _
    rw [who_all h]; exact e
theorem alls_mixed {t : List Int} {d m f first last : Nat} {host : Int} (hM : Mxd t d m) (h : gt t m = 255) (h1 : first ≤ f) (h2 : f + 2 ^ d ≤ last + 1) : ¬ Alls t d m f first last host := fun hA => by
  obtain ⟨q, q1, q2⟩ := mxd_mixed hM h host
  exact q2 (hA q q1 (by omega) (by omega))
theorem alls_node {t : List Int} {d m f first last : Nat} {host : Int} (h : gt t m = 255) : Alls t (d + 1) m f first last host ↔ Alls t d (2 * m) f first last host ∧ Alls t d (2 * m + 1) (f + 2 ^ d) first last host := by
  have e2 : 2 ^ (d + 1) = 2 ^ d + 2 ^ d := by rw [Nat.pow_succ]; omega
  constructor
  · intro hA
    refine ⟨fun q q1 q2 q3 => ?_, fun q q1 q2 q3 => ?_⟩
    · have := hA q (by omega) q2 q3
      rw [who_mixed h, if_pos q1] at this; exact this
    · have := hA (q + 2 ^ d) (by omega) (by omega) (by omega)
      rw [who_mixed h, if_neg (by omega), Nat.add_sub_cancel] at this; exact this
  · rintro ⟨hL, hR⟩ q q1 q2 q3
    rw [who_mixed h]
    by_cases c : q < 2 ^ d
    · rw [if_pos c]; exact hL q c q2 q3
    · rw [if_neg c]; exact hR _ (by omega) (by omega) (by omega)
theorem Hd.left {t t1 : List Int} {d m : Nat} (h : Hd t t1 m) (hM : Mxd t (d + 1) m) : Mxd t1 d (2 * m) := by
  by_cases e : gt t m = 255
  · have all : ∀ k, gt t1 k = gt t k := fun k => by
      by_cases c1 : k = 2 * m
      · rw [c1]; exact (h.mix e).1
      · by_cases c2 : k = 2 * m + 1
        · rw [c2]; exact (h.mix e).2
        · exact h.far k c1 c2
    exact mxd_same (fun k _ => all k) (mxd_left hM e)
  · exact mxd_one (by rw [(h.one e).1]; exact e) d
theorem Hd.right {t t1 : List Int} {d m : Nat} (h : Hd t t1 m) (hM : Mxd t (d + 1) m) : Mxd t1 d (2 * m + 1) := by
  by_cases e : gt t m = 255
  · have all : ∀ k, gt t1 k = gt t k := fun k => by
      by_cases c1 : k = 2 * m
      · rw [c1]; exact (h.mix e).1
      · by_cases c2 : k = 2 * m + 1
        · rw [c2]; exact (h.mix e).2
        · exact h.far k c1 c2
    exact mxd_same (fun k _ => all k) (mxd_right hM e)
  · exact mxd_one (by rw [(h.one e).2]; exact e) d
theorem Gvn.right {t1 t2 : List Int} {d m f first last : Nat} {host : Int} (hm : 0 < m) (h : Gvn t1 t2 d (2 * m) f first last host) (hM : Mxd t1 d (2 * m + 1)) : Mxd t2 d (2 * m + 1) :=
  mxd_same (fun k hk => h.far k (fun c => below_apart hm c hk)) hM
end Go.Proofs.YtbifmcadllilhaaGreat.Rg
