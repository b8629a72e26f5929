import Derived.Test.YtbifmcadllilhaaGreatPwB
import Derived.Test.YtbifmcadllilhaaGreatPvA
namespace Go.Proofs.YtbifmcadllilhaaGreat.Rg
open Go.RowKit Go.Shelf Go.Sort
open Go.Proofs.YtbifmcadllilhaaGreat.It
set_option linter.unusedVariables false
/-- a segment, its host taken modulo the number of hosts -/
def tmd (n : Nat) (s : Sg) : Sg := ⟨s.lo, s.hi, s.h % (n : Int)⟩
theorem cov_tmd (n : Nat) : ∀ {L : List Sg} {a b : Int}, Cov a L b → Cov a (L.map (tmd n)) b
  | [], a, b, h => h
  | s :: r, a, b, h => ⟨h.1, h.2.1, cov_tmd n h.2.2⟩
theorem cov_fol {A : List Sg} {s : Sg} {m : Int} (hc : Cov 0 A m) (h : s.lo = m) : fol A s = true := by
  rcases List.eq_nil_or_concat A with rfl | ⟨A', t, rfl⟩
  · have e : (0 : Int) = m := hc
    simp only [fol, List.getLast?_nil, beq_iff_eq]
    omega
  · rw [List.concat_eq_append] at hc ⊢
    have hl := cov_last hc
    have hm := cov_mem hc t (by simp)
    simp only [fol, List.getLast?_append, List.getLast?_singleton, Option.some_or, Bool.and_eq_true, decide_eq_true_eq, beq_iff_eq]
    omega
theorem cov_split : ∀ {L : List Sg} {a b : Int} (k : Nat) {s : Sg}, Cov a L b → L[k]? = some s → Cov a (L.take k) s.lo
  | t :: r, a, b, 0, s, h, hs => by
    simp at hs; subst hs
    exact h.1.symm
  | t :: r, a, b, k + 1, s, h, hs => ⟨h.1, h.2.1, cov_split k h.2.2 (by simpa using hs)⟩
theorem lok_of {M : List Sg} (h : Good M) : Lok M M.length := fun i hi s hs => by
  have hc := cov_split i h.cov hs
  have hc2 := (lays_cov (A := []) (a := 0) (m := 0) rfl hc).1
  have hm := cov_mem h.cov s (List.mem_of_getElem? hs)
  have hb := h.hs s (List.mem_of_getElem? hs)
  have hf := cov_fol hc2 rfl
  unfold flt
  rw [if_neg (by rw [hf]; simp), if_neg (by omega), if_neg (by omega)]
theorem good_tmd {M : List Sg} (h : Good M) {n : Nat} (n1 : 1 ≤ n) (n16 : n ≤ 16) : Good (M.map (tmd n)) ∧ ∀ s ∈ M.map (tmd n), 0 ≤ s.h ∧ s.h < (n : Int) := by
  have hb : ∀ s ∈ M.map (tmd n), 0 ≤ s.h ∧ s.h < (n : Int) := fun s hs => by
    obtain ⟨t, _, e⟩ := List.mem_map.1 hs
    rw [← e]
    exact ⟨Int.emod_nonneg _ (by omega), Int.emod_lt_of_pos _ (by omega)⟩
  exact ⟨⟨cov_tmd n h.cov, fun s hs => by have := hb s hs; omega⟩, hb⟩
theorem layB_tmd {M : List Sg} (h : Good M) {n : Nat} (n1 : 1 ≤ n) (n16 : n ≤ 16) (hl : M.length ≤ 4096) {ks : List Int} (hr : Ris ks) : LayB (n : Int) (M.map (tmd n)) ks := by
  obtain ⟨g, hb⟩ := good_tmd h n1 n16
  have hle := lays_le (M.map (tmd n)) []
  rw [List.length_map] at hle
  refine ⟨⟨lok_of g, good_lok g, ?_⟩, fun s hs => ?_, hr⟩
  · simp only [List.length_nil] at hle
    omega
  · obtain ⟨y, hy, e⟩ := lays_mem hs
    rw [← e]
    rw [List.nil_append] at hy
    exact (hb y hy).2
theorem ris_snoc {o : List Int} (h : Ris o) {x : Int} (hx : ∀ y, o[o.length - 1]? = some y → o ≠ [] → y < x) : Ris (o ++ [x]) := fun i a b ha hb => by
  rcases Nat.lt_or_ge (i + 1) o.length with c | c
  · rw [List.getElem?_append_left (by omega)] at ha
    rw [List.getElem?_append_left c] at hb
    exact h i a b ha hb
  · have hl : i + 1 < (o ++ [x]).length := (List.getElem?_eq_some_iff.1 hb).1
    rw [List.length_append, List.length_singleton] at hl
    have ei : i + 1 = o.length := by omega
    rw [List.getElem?_append_right (by omega), show i + 1 - o.length = 0 by omega] at hb
    simp at hb
    subst hb
    rw [List.getElem?_append_left (by omega)] at ha
    exact hx a (by rw [← ei, Nat.add_sub_cancel]; exact ha) (fun e => by rw [e] at ei; simp at ei)
theorem lt_cases23 {i : Nat} (h : i < 23) : i = 0 ∨ i = 1 ∨ i = 2 ∨ i = 3 ∨ i = 4 ∨ i = 5 ∨ i = 6 ∨ i = 7 ∨ i = 8 ∨ i = 9 ∨ i = 10 ∨ i = 11 ∨ i = 12 ∨ i = 13 ∨ i = 14 ∨ i = 15 ∨ i = 16 ∨ i = 17 ∨ i = 18 ∨ i = 19 ∨ i = 20 ∨ i = 21 ∨ i = 22 := by omega
theorem cell_three_at {w : World} {B : Nat} {a b c : Value} {t : TypeId} (h : w.heap[B]? = some (.cells #[a, b, c] t (0, 0))) : ∀ j u, [a, b, c][j]? = some u → w.cell? ((⟨B, 0, none⟩ : Addr).add j) = some u := by
  intro j u hj
  rw [Addr.add_lit, Nat.zero_add]
  match j, hj with
  | 0, hj => simp at hj; subst hj; simp [World.cell?, h]
  | 1, hj => simp at hj; subst hj; simp [World.cell?, h]
  | 2, hj => simp at hj; subst hj; simp [World.cell?, h]
  | j + 3, hj => simp at hj
/-- what the lists come to -/
def TaR (w w' : World) (n : Int) (M : List Sg) (ks : List Int) (e : Ending) : Prop :=
  (∃ v1 v2, e = .returned (.tuple #[v1, v2, .bool false])) ∨
  (((1 ≤ n ∧ n ≤ 16) ∧ Good M ∧ M.length ≤ 4096 ∧ ks.length ≤ 4096) ∧ ∃ (N : Nat) (sv kv : Value) (k' : List Int), n = (N : Int) ∧ e = .returned (.tuple #[sv, kv, .bool true]) ∧ w'.ownsRow w.heap.size 38 3 sv M.length (cells (M.map (tmd N))) ∧ w'.ownsRow w.heap.size 24 1 kv k'.length (ucs k') ∧ Ris k' ∧ (∀ x ∈ k', x ∈ ks) ∧ k'.length ≤ ks.length)
set_option maxRecDepth 100000 in
set_option maxHeartbeats 4000000 in
theorem tamed22 (w : World) (n : Int) (u k : Value) (M : List Sg) (ks : List Int) (hM : Sgs w u M) (hlen : (M.length : Int) ≤ 5864062014634) (hk : Us w k ks) (hkl : ks.length * 8 ≤ 140737488351232) (hkr : ∀ x ∈ ks, 0 ≤ x ∧ x < 18446744073709551616) :
    Calls Tryz.prog 7 #[.int .i64 n, u, k] w fun e w' => TaR w w' n M ks e ∧ Kp Nu w w' := by
  have mixed : Tryz.prog.follows .mixedOrders = true := by kernel_rfl
  have FA := fault_refA w u M hM hlen
  obtain ⟨ad, cap, hu⟩ := hM.slice
  obtain ⟨a1, c1, rfl, hd1, hd2⟩ := id hk
  clear hd1 hd2
  obtain ⟨N, eN⟩ : ∃ N, ks.length = N := ⟨_, rfl⟩
  obtain ⟨NM, eNM⟩ : ∃ N, M.length = N := ⟨_, rfl⟩
  have HU := hide (And.intro hM (And.intro hk (And.intro eN (And.intro eNM hkr))))
  rw [eN] at hkl ⊢
  rw [eNM] at hu
  subst hu
  clear hM hk eN hlen hkr eNM
  go_enter Tryz.func7, Tryz.ntmps7
  go_wp2_with fail
  refine FA.mono ?_; rintro e w1 ⟨fp, fc, rfl, hF, hk1⟩
  have HF := hide (And.intro hF hk1)
  clear FA hF hk1
  by_cases h1 : n < 1
  · have x1 : decide (n < 1) = true := by simpa using h1
    clear h1
    go_wp2
    go_ret3
    exact ⟨.inl ⟨_, _, rfl⟩, HF.out.2⟩
  have x1 : decide (n < 1) = false := by simpa using h1
  by_cases h2 : n > 16
  · have x2 : decide (n > 16) = true := by simpa using h2
    clear h1 h2
    go_wp2
    go_ret3
    exact ⟨.inl ⟨_, _, rfl⟩, HF.out.2⟩
  have x2 : decide (n > 16) = false := by simpa using h2
  by_cases h3 : ¬ fc = 0
  · have x3 : (fc == 0) = false := by simpa using h3
    have x3' : (fc != 0) = true := by simp [h3]
    clear h1 h2 h3
    go_wp2
    go_ret3
    exact ⟨.inl ⟨_, _, rfl⟩, HF.out.2⟩
  obtain rfl : fc = 0 := by omega
  by_cases h4 : (NM : Int) > 4096
  · have x4 : decide ((NM : Int) > 4096) = true := by simpa using h4
    clear h1 h2 h3 h4
    go_wp2
    go_ret3
    exact ⟨.inl ⟨_, _, rfl⟩, HF.out.2⟩
  have x4 : decide ((NM : Int) > 4096) = false := by simpa using h4
  by_cases h5 : (N : Int) > 4096
  · have x5 : decide ((N : Int) > 4096) = true := by simpa using h5
    clear h1 h2 h3 h4 h5
    go_wp2
    go_ret3
    exact ⟨.inl ⟨_, _, rfl⟩, HF.out.2⟩
  have x5 : decide ((N : Int) > 4096) = false := by simpa using h5
  obtain ⟨n', hn'⟩ : ∃ n' : Nat, n = (n' : Int) := ⟨n.toNat, by omega⟩
  subst hn'
  have hgood : Good M := by
    rcases HF.out.1 with ⟨_, _, _, _, _, h, _⟩ | ⟨_, h, _⟩ | ⟨_, g1, g2, _⟩
    · exact absurd rfl h
    · cases h
    · exact lok_good g1 g2 HU.out.1.sgb
  have HG : Hid ((1 ≤ n' ∧ n' ≤ 16) ∧ Good M ∧ NM ≤ 4096 ∧ N ≤ 4096) := hide ⟨by omega, hgood, by omega, by omega⟩
  have hn0 : ((n' : Int) == 0) = false := by simp; omega
  have hn1 : (1 : Int) ≤ (n' : Int) := by omega
  have hn16 : (n' : Int) ≤ 16 := by omega
  have hn8 : IntKind.u8.wrap (n' : Int) = (n' : Int) := by rw [IntKind.wrap_u8]; omega
  have hNM : (NM : Int) ≤ 4096 := by omega
  have hNI : (N : Int) ≤ 4096 := by omega
  clear h1 h2 h3 h4 h5 hgood
  obtain ⟨i0, hiT, hj0, hj1, hj2⟩ := info_parts info82z
  go_wp2
  go_loopw [11, 12] (fun sv iv wr => ∃ (i : Nat) (sa : Option Addr) (sc : Nat), sv = .slice sa i sc ∧ iv = .int .i64 (i : Int) ∧ i ≤ NM ∧ Hid (wr.ownsRow w.heap.size 38 3 (.slice sa i sc) i (cells ((M.take i).map (tmd n'))) ∧ Kp Nu w wr)) (fun _ iv _ => NM - (intOf iv).toNat)
  case atStart => exact ⟨0, none, 0, rfl, rfl, Nat.zero_le _, hide ⟨World.ownsRow_nil _ _ _ _, HF.out.2⟩⟩
  case round =>
    obtain ⟨i, sa, sc, rfl, rfl, hi, hI⟩ := hrel
    have hi0 : (0 : Int) ≤ (i : Int) := by omega
    by_cases hlt : i < NM
    · have hltI : (i : Int) < (NM : Int) := by omega
      have eti : (i : Int).toNat = i := by omega
      obtain ⟨hrow, kwr⟩ := hI.out
      obtain ⟨hM, hk, eN, eNM, hkr⟩ := HU.out
      obtain ⟨s, hs⟩ : ∃ s, M[i]? = some s := ⟨_, List.getElem?_eq_getElem (by rw [eNM]; exact hlt)⟩
      have hMr := hM.nu kwr
      obtain ⟨bb, oo, hba, kkc⟩ := hMr.at_ hs
      obtain ⟨y0, y1, y2, hf⟩ := kkc
      subst hba
      have htk : (M.take (i + 1)).map (tmd n') = (M.take i).map (tmd n') ++ [tmd n' s] := by rw [List.take_add_one, hs, Option.toList_some, List.map_append]; rfl
      obtain ⟨hh, ehh⟩ : ∃ hh, s.h % (n' : Int) = hh := ⟨_, rfl⟩
      have hm0 := Int.emod_nonneg s.h (by omega : (n' : Int) ≠ 0)
      have hm1 := Int.emod_lt_of_pos s.h (by omega : (0 : Int) < (n' : Int))
      rw [ehh] at hm0 hm1
      have etm : Int.tmod s.h (n' : Int) = hh := by rw [Int.tmod_eq_emod_of_nonneg hf.2.2.2.2.1]; exact ehh
      have ecs : cells [tmd n' s] = [.int .u64 s.lo, .int .u64 s.hi, .int .u8 hh] := by simp [cells, cellsG, tmd, ehh]
      have HR : Hid (∀ w', Kp Nu wr w' → w'.cell? ⟨bb, oo + i * 3, none⟩ = some (.int .u64 s.lo) ∧ w'.cell? ⟨bb, oo + i * 3 + 1, none⟩ = some (.int .u64 s.hi) ∧ w'.cell? ⟨bb, oo + i * 3 + 2, none⟩ = some (.int .u8 s.h)) := hide (fun w' k => ⟨cell_nu y0 k, cell_nu y1 k, cell_nu y2 k⟩)
      obtain ⟨OUA, hOUA⟩ : ∃ OUA : Option Addr → Nat → World → Prop, OUA = fun va vc w' => w'.ownsRow w.heap.size 38 3 (.slice va (i + 1) vc) (i + 1) (cells ((M.take (i + 1)).map (tmd n'))) ∧ Kp Nu w w' := ⟨_, rfl⟩
      have hwr : w.heap.size ≤ wr.heap.size := kwr.size
      have HV : Hid (∀ w' Bs, Kp Nu wr w' → Hid (w'.heap[Bs]? = some (.cells #[.int .u64 s.lo, .int .u64 s.hi, .int .u8 hh] 38 (0, 0))) → ∃ va vc W2, (Builtin.append_ #[22, 22] 22 #[.slice sa i sc, .slice (some ⟨Bs, 0, none⟩) 1 1]).run Tryz.prog w' = .ok (.slice va (i + 1) vc) W2 ∧ Hid (OUA va vc W2)) := fun w' Bs k hB => by
        have hown := own_keep hrow (fun g e => k.block g (own_lt hrow e) (fun h => h))
        obtain ⟨v', W2, hrun, h1, h2, _, h5⟩ := run_append_own_at (P := Tryz.prog) w' w.heap.size 22 22 38 i0 _ 3 24 Tryz.underlying22 hiT hj0 hj1 hj2 rfl (by decide) _ i _ hown ⟨Bs, 0, none⟩ 1 1 [.int .u64 s.lo, .int .u64 s.hi, .int .u8 hh] rfl (cell_three_at hB) (by simp [Value.oneCell']) (by unfold maxLen; omega) (by omega) (Nat.le_trans hwr k.size)
        obtain ⟨va, vc, rfl⟩ := own_slice h1
        refine ⟨va, vc, W2, hrun, ?_⟩
        show OUA va vc W2
        rw [hOUA]
        refine ⟨?_, (kwr.andNu k).trans (Kp.of_grown h2) (fun g hg e => by have := (hown.lt g e.symm).1; omega)⟩
        rw [htk, cells_append, ecs]
        exact h1
      have HZ := hide hOUA
      have hnz : ¬ n' = 0 := by omega
      have ew8 : IntKind.u8.wrap hh = hh := by rw [IntKind.wrap_u8]; omega
      have hlo0 := hf.1
      have hh0 := hf.2.2.2.2.1
      have hh1 := hf.2.2.2.2.2
      clear hrow kwr hM hk eN eNM hkr hs hMr htk ecs hOUA hwr hf ehh hI y0 y1 y2
      go_wp2_with fail
      refine (wpIn_wide (n := 0)).1 ?_
      refine wpIn_region_any (by assumption) ?_
      change wpAnyIn _ _ _ _ _ _ _ _ _ (World.drew _)
      refine Ord.wpAnyIn_inv (Inv := fun listed a w' => ∃ (l0 l1 l2 l3 l4 l5 l6 l7 l8 l9 l10 l11 l12 l13 l14 l15 l16 l17 l18 l19 l20 l21 l22 : Bool) (Bs : Nat) (va : Option Addr) (vc : Nat), listed = #[l0, l1, l2, l3, l4, l5, l6, l7, l8, l9, l10, l11, l12, l13, l14, l15, l16, l17, l18, l19, l20, l21, l22] ∧ a = { tmps := #[.int .i64 (n' : Int), .slice (some ⟨bb, oo, none⟩) NM cap, .slice a1 N c1, undef, undef, undef, .slice none 0 0, .slice none 0 0, .bool false, .int .i64 fp, .int .i64 0, Rg.selD l22 (.slice va (i + 1) vc) (.slice sa i sc), .int .i64 (i : Int), undef, undef, undef, .tuple #[.int .i64 fp, .int .i64 0], .slice (some ⟨bb, oo, none⟩) NM cap, .tuple #[.int .i64 fp, .int .i64 0], .int .i64 fp, .int .i64 0, .int .i64 (n' : Int), .bool false, .bool false, .int .i64 (n' : Int), .bool false, .bool false, .bool false, .int .i64 0, .bool false, .bool false, .bool false, .slice (some ⟨bb, oo, none⟩) NM cap, .int .i64 (NM : Int), .bool false, .bool false, .bool false, .slice a1 N c1, .int .i64 (N : Int), .bool false, .bool false, .int .i64 (i : Int), .slice (some ⟨bb, oo, none⟩) NM cap, .int .i64 (NM : Int), .bool true, u45, u46, Rg.selD l0 (.slice sa i sc) (u47), Rg.selD l1 (.slice (some ⟨bb, oo, none⟩) NM cap) (u48), Rg.selD l2 (.int .i64 (i : Int)) (u49), Rg.selD l3 (.pointer (some ⟨bb, oo + i * 3, none⟩)) (u50), Rg.selD l4 (.pointer (some ⟨bb, oo + i * 3, none⟩)) (u51), Rg.selD l5 (.int .u64 s.lo) (u52), Rg.selD l6 (.slice (some ⟨bb, oo, none⟩) NM cap) (u53), Rg.selD l7 (.int .i64 (i : Int)) (u54), Rg.selD l8 (.pointer (some ⟨bb, oo + i * 3, none⟩)) (u55), Rg.selD l9 (.pointer (some ⟨bb, oo + i * 3 + 1, none⟩)) (u56), Rg.selD l10 (.int .u64 s.hi) (u57), Rg.selD l11 (.slice (some ⟨bb, oo, none⟩) NM cap) (u58), Rg.selD l12 (.int .i64 (i : Int)) (u59), Rg.selD l13 (.pointer (some ⟨bb, oo + i * 3, none⟩)) (u60), Rg.selD l14 (.pointer (some ⟨bb, oo + i * 3 + 2, none⟩)) (u61), Rg.selD l15 (.int .u8 s.h) (u62), Rg.selD l16 (.int .i64 (n' : Int)) (u63), Rg.selD l17 (.int .u8 (n' : Int)) (u64), Rg.selD l18 (.int .u8 hh) (u65), Rg.selD l19 (.agg #[.int .u64 s.lo, .int .u64 s.hi, .int .u8 hh]) (u66), Rg.selD l20 (.slice (some ⟨Bs, 0, none⟩) 1 1) (u67), Rg.selD l21 (.slice va (i + 1) vc) (u68), undef, undef, undef, undef, undef, undef, undef, undef, undef, undef, undef, undef, undef, undef, undef, undef, undef, undef, undef, undef, undef, undef, undef, undef, undef, undef, undef, undef, undef, undef, undef], defers := [] } ∧ (l3 = true → l1 = true ∧ l2 = true) ∧ (l4 = true → l3 = true) ∧ (l5 = true → l4 = true) ∧ (l8 = true → l6 = true ∧ l7 = true) ∧ (l9 = true → l8 = true) ∧ (l10 = true → l9 = true) ∧ (l13 = true → l11 = true ∧ l12 = true) ∧ (l14 = true → l13 = true) ∧ (l15 = true → l14 = true) ∧ (l17 = true → l16 = true) ∧ (l18 = true → l15 = true ∧ l17 = true) ∧ (l19 = true → l5 = true ∧ l10 = true ∧ l18 = true) ∧ (l20 = true → l19 = true) ∧ (l21 = true → l0 = true ∧ l20 = true) ∧ (l22 = true → l21 = true ∧ l0 = true ∧ l1 = true ∧ l2 = true ∧ l3 = true ∧ l4 = true ∧ l5 = true ∧ l6 = true ∧ l7 = true ∧ l8 = true ∧ l9 = true ∧ l10 = true ∧ l11 = true ∧ l12 = true ∧ l13 = true ∧ l14 = true ∧ l15 = true ∧ l16 = true ∧ l17 = true ∧ l18 = true ∧ l19 = true ∧ l20 = true) ∧ (l21 = false → Kp Nu wr w') ∧ (l20 = true → l21 = false → Hid (w'.heap[Bs]? = some (.cells #[.int .u64 s.lo, .int .u64 s.hi, .int .u8 hh] 38 (0, 0)))) ∧ (l21 = true → Hid (OUA va vc w'))) ?step ?fin _ _ _ _ ?start ?count
      case start => exact ⟨false, false, false, false, false, false, false, false, false, false, false, false, false, false, false, false, false, false, false, false, false, false, false, 0, none, 0, rfl, rfl, (fun h => by cases h), (fun h => by cases h), (fun h => by cases h), (fun h => by cases h), (fun h => by cases h), (fun h => by cases h), (fun h => by cases h), (fun h => by cases h), (fun h => by cases h), (fun h => by cases h), (fun h => by cases h), (fun h => by cases h), (fun h => by cases h), (fun h => by cases h), (fun h => by cases h), fun _ => (Kp.refl Nu wr).drew, (fun h => by cases h), (fun h => by cases h)⟩
      case count => decide
      case step =>
        rintro listed a w' i ⟨l0, l1, l2, l3, l4, l5, l6, l7, l8, l9, l10, l11, l12, l13, l14, l15, l16, l17, l18, l19, l20, l21, l22, Bs, va, vc, rfl, rfl, c3, c4, c5, c8, c9, c10, c13, c14, c15, c17, c18, c19, c20, c21, c22, hw0, hw1, hw2⟩ hi'
        obtain ⟨hlt', hb⟩ := Ord.mem_ready hi'
        rcases lt_cases23 hlt' with rfl | rfl | rfl | rfl | rfl | rfl | rfl | rfl | rfl | rfl | rfl | rfl | rfl | rfl | rfl | rfl | rfl | rfl | rfl | rfl | rfl | rfl | rfl
        all_goals simp [Region.binds] at hb
        · have q0 := hb
          have f21 : l21 = false := by cases hh : l21 with | false => rfl | true => exact absurd ((c21 hh).1) (by rw [q0]; simp)
          have f22 : l22 = false := by cases hh : l22 with | false => rfl | true => exact absurd ((c22 hh).1) (by rw [f21]; simp)
          have hk := hw0 f21
          have H1 := hide hw1
          clear hw0 hw1 hw2
          clear hi' hlt'
          subst q0 f21 f22
          have H3c := hide c3; clear c3
          have H4c := hide c4; clear c4
          have H5c := hide c5; clear c5
          have H8c := hide c8; clear c8
          have H9c := hide c9; clear c9
          have H10c := hide c10; clear c10
          have H13c := hide c13; clear c13
          have H14c := hide c14; clear c14
          have H15c := hide c15; clear c15
          have H17c := hide c17; clear c17
          have H18c := hide c18; clear c18
          have H19c := hide c19; clear c19
          have H20c := hide c20; clear c20
          clear c21
          clear c22
          refine wpOpIn_step rfl (fun K hK => ?_)
          simp only [Rg.selD_f]
          go_simp
          refine hK _ _ ?_
          exact ⟨true, _, _, _, _, _, _, _, _, _, _, _, _, _, _, _, _, _, _, _, _, false, false, Bs, va, vc, rfl, rfl, H3c.out, H4c.out, H5c.out, H8c.out, H9c.out, H10c.out, H13c.out, H14c.out, H15c.out, H17c.out, H18c.out, H19c.out, H20c.out, (fun h => by cases h), (fun h => by cases h), fun _ => hk, H1.out, (fun h => by cases h)⟩
        · have q1 := hb
          have f3 : l3 = false := by cases hh : l3 with | false => rfl | true => exact absurd ((c3 hh).1) (by rw [q1]; simp)
          have f4 : l4 = false := by cases hh : l4 with | false => rfl | true => exact absurd ((c4 hh)) (by rw [f3]; simp)
          have f5 : l5 = false := by cases hh : l5 with | false => rfl | true => exact absurd ((c5 hh)) (by rw [f4]; simp)
          have f19 : l19 = false := by cases hh : l19 with | false => rfl | true => exact absurd ((c19 hh).1) (by rw [f5]; simp)
          have f20 : l20 = false := by cases hh : l20 with | false => rfl | true => exact absurd ((c20 hh)) (by rw [f19]; simp)
          have f21 : l21 = false := by cases hh : l21 with | false => rfl | true => exact absurd ((c21 hh).2) (by rw [f20]; simp)
          have f22 : l22 = false := by cases hh : l22 with | false => rfl | true => exact absurd ((c22 hh).1) (by rw [f21]; simp)
          have hk := hw0 f21
          clear hw0 hw1 hw2
          clear hi' hlt'
          subst q1 f3 f4 f5 f19 f20 f21 f22
          clear c3
          clear c4
          clear c5
          have H8c := hide c8; clear c8
          have H9c := hide c9; clear c9
          have H10c := hide c10; clear c10
          have H13c := hide c13; clear c13
          have H14c := hide c14; clear c14
          have H15c := hide c15; clear c15
          have H17c := hide c17; clear c17
          have H18c := hide c18; clear c18
          clear c19
          clear c20
          clear c21
          clear c22
          refine wpOpIn_step rfl (fun K hK => ?_)
          simp only [Rg.selD_f]
          go_simp
          refine hK _ _ ?_
          exact ⟨_, true, _, false, false, false, _, _, _, _, _, _, _, _, _, _, _, _, _, false, false, false, false, Bs, va, vc, rfl, rfl, (fun h => by cases h), (fun h => by cases h), (fun h => by cases h), H8c.out, H9c.out, H10c.out, H13c.out, H14c.out, H15c.out, H17c.out, H18c.out, (fun h => by cases h), (fun h => by cases h), (fun h => by cases h), (fun h => by cases h), fun _ => hk, (fun h => by cases h), (fun h => by cases h)⟩
        · have q2 := hb
          have f3 : l3 = false := by cases hh : l3 with | false => rfl | true => exact absurd ((c3 hh).2) (by rw [q2]; simp)
          have f4 : l4 = false := by cases hh : l4 with | false => rfl | true => exact absurd ((c4 hh)) (by rw [f3]; simp)
          have f5 : l5 = false := by cases hh : l5 with | false => rfl | true => exact absurd ((c5 hh)) (by rw [f4]; simp)
          have f19 : l19 = false := by cases hh : l19 with | false => rfl | true => exact absurd ((c19 hh).1) (by rw [f5]; simp)
          have f20 : l20 = false := by cases hh : l20 with | false => rfl | true => exact absurd ((c20 hh)) (by rw [f19]; simp)
          have f21 : l21 = false := by cases hh : l21 with | false => rfl | true => exact absurd ((c21 hh).2) (by rw [f20]; simp)
          have f22 : l22 = false := by cases hh : l22 with | false => rfl | true => exact absurd ((c22 hh).1) (by rw [f21]; simp)
          have hk := hw0 f21
          clear hw0 hw1 hw2
          clear hi' hlt'
          subst q2 f3 f4 f5 f19 f20 f21 f22
          clear c3
          clear c4
          clear c5
          have H8c := hide c8; clear c8
          have H9c := hide c9; clear c9
          have H10c := hide c10; clear c10
          have H13c := hide c13; clear c13
          have H14c := hide c14; clear c14
          have H15c := hide c15; clear c15
          have H17c := hide c17; clear c17
          have H18c := hide c18; clear c18
          clear c19
          clear c20
          clear c21
          clear c22
          refine wpOpIn_step rfl (fun K hK => ?_)
          simp only [Rg.selD_f]
          go_simp
          refine hK _ _ ?_
          exact ⟨_, _, true, false, false, false, _, _, _, _, _, _, _, _, _, _, _, _, _, false, false, false, false, Bs, va, vc, rfl, rfl, (fun h => by cases h), (fun h => by cases h), (fun h => by cases h), H8c.out, H9c.out, H10c.out, H13c.out, H14c.out, H15c.out, H17c.out, H18c.out, (fun h => by cases h), (fun h => by cases h), (fun h => by cases h), (fun h => by cases h), fun _ => hk, (fun h => by cases h), (fun h => by cases h)⟩
        · obtain ⟨q3, e1, e2⟩ := hb
          have f4 : l4 = false := by cases hh : l4 with | false => rfl | true => exact absurd ((c4 hh)) (by rw [q3]; simp)
          have f5 : l5 = false := by cases hh : l5 with | false => rfl | true => exact absurd ((c5 hh)) (by rw [f4]; simp)
          have f19 : l19 = false := by cases hh : l19 with | false => rfl | true => exact absurd ((c19 hh).1) (by rw [f5]; simp)
          have f20 : l20 = false := by cases hh : l20 with | false => rfl | true => exact absurd ((c20 hh)) (by rw [f19]; simp)
          have f21 : l21 = false := by cases hh : l21 with | false => rfl | true => exact absurd ((c21 hh).2) (by rw [f20]; simp)
          have f22 : l22 = false := by cases hh : l22 with | false => rfl | true => exact absurd ((c22 hh).1) (by rw [f21]; simp)
          have hk := hw0 f21
          clear hw0 hw1 hw2
          clear hi' hlt'
          subst q3 e1 e2 f4 f5 f19 f20 f21 f22
          clear c3
          clear c4
          clear c5
          have H8c := hide c8; clear c8
          have H9c := hide c9; clear c9
          have H10c := hide c10; clear c10
          have H13c := hide c13; clear c13
          have H14c := hide c14; clear c14
          have H15c := hide c15; clear c15
          have H17c := hide c17; clear c17
          have H18c := hide c18; clear c18
          clear c19
          clear c20
          clear c21
          clear c22
          refine wpOpIn_step rfl (fun K hK => ?_)
          simp only [Rg.selD_t, Rg.selD_f]
          go_simp
          refine hK _ _ ?_
          exact ⟨_, true, true, true, false, false, _, _, _, _, _, _, _, _, _, _, _, _, _, false, false, false, false, Bs, va, vc, rfl, rfl, fun _ => ⟨rfl, rfl⟩, (fun h => by cases h), (fun h => by cases h), H8c.out, H9c.out, H10c.out, H13c.out, H14c.out, H15c.out, H17c.out, H18c.out, (fun h => by cases h), (fun h => by cases h), (fun h => by cases h), (fun h => by cases h), fun _ => hk, (fun h => by cases h), (fun h => by cases h)⟩
        · obtain ⟨q4, e3⟩ := hb
          obtain ⟨e1, e2⟩ := c3 e3
          have f5 : l5 = false := by cases hh : l5 with | false => rfl | true => exact absurd ((c5 hh)) (by rw [q4]; simp)
          have f19 : l19 = false := by cases hh : l19 with | false => rfl | true => exact absurd ((c19 hh).1) (by rw [f5]; simp)
          have f20 : l20 = false := by cases hh : l20 with | false => rfl | true => exact absurd ((c20 hh)) (by rw [f19]; simp)
          have f21 : l21 = false := by cases hh : l21 with | false => rfl | true => exact absurd ((c21 hh).2) (by rw [f20]; simp)
          have f22 : l22 = false := by cases hh : l22 with | false => rfl | true => exact absurd ((c22 hh).1) (by rw [f21]; simp)
          have hk := hw0 f21
          clear hw0 hw1 hw2
          clear hi' hlt'
          subst q4 e1 e2 e3 f5 f19 f20 f21 f22
          clear c3
          clear c4
          clear c5
          have H8c := hide c8; clear c8
          have H9c := hide c9; clear c9
          have H10c := hide c10; clear c10
          have H13c := hide c13; clear c13
          have H14c := hide c14; clear c14
          have H15c := hide c15; clear c15
          have H17c := hide c17; clear c17
          have H18c := hide c18; clear c18
          clear c19
          clear c20
          clear c21
          clear c22
          refine wpOpIn_step rfl (fun K hK => ?_)
          simp only [Rg.selD_t, Rg.selD_f]
          go_simp
          refine hK _ _ ?_
          exact ⟨_, true, true, true, true, false, _, _, _, _, _, _, _, _, _, _, _, _, _, false, false, false, false, Bs, va, vc, rfl, rfl, fun _ => ⟨rfl, rfl⟩, fun _ => rfl, (fun h => by cases h), H8c.out, H9c.out, H10c.out, H13c.out, H14c.out, H15c.out, H17c.out, H18c.out, (fun h => by cases h), (fun h => by cases h), (fun h => by cases h), (fun h => by cases h), fun _ => hk, (fun h => by cases h), (fun h => by cases h)⟩
        · obtain ⟨q5, e4⟩ := hb
          obtain e3 := c4 e4
          obtain ⟨e1, e2⟩ := c3 e3
          have f19 : l19 = false := by cases hh : l19 with | false => rfl | true => exact absurd ((c19 hh).1) (by rw [q5]; simp)
          have f20 : l20 = false := by cases hh : l20 with | false => rfl | true => exact absurd ((c20 hh)) (by rw [f19]; simp)
          have f21 : l21 = false := by cases hh : l21 with | false => rfl | true => exact absurd ((c21 hh).2) (by rw [f20]; simp)
          have f22 : l22 = false := by cases hh : l22 with | false => rfl | true => exact absurd ((c22 hh).1) (by rw [f21]; simp)
          have hk := hw0 f21
          clear hw0 hw1 hw2
          have z4 := (HR.out _ hk).1
          clear hi' hlt'
          subst q5 e1 e2 e3 e4 f19 f20 f21 f22
          clear c3
          clear c4
          clear c5
          have H8c := hide c8; clear c8
          have H9c := hide c9; clear c9
          have H10c := hide c10; clear c10
          have H13c := hide c13; clear c13
          have H14c := hide c14; clear c14
          have H15c := hide c15; clear c15
          have H17c := hide c17; clear c17
          have H18c := hide c18; clear c18
          clear c19
          clear c20
          clear c21
          clear c22
          refine wpOpIn_step rfl (fun K hK => ?_)
          simp only [Rg.selD_t, Rg.selD_f]
          go_simp
          refine hK _ _ ?_
          exact ⟨_, true, true, true, true, true, _, _, _, _, _, _, _, _, _, _, _, _, _, false, false, false, false, Bs, va, vc, rfl, rfl, fun _ => ⟨rfl, rfl⟩, fun _ => rfl, fun _ => rfl, H8c.out, H9c.out, H10c.out, H13c.out, H14c.out, H15c.out, H17c.out, H18c.out, (fun h => by cases h), (fun h => by cases h), (fun h => by cases h), (fun h => by cases h), fun _ => hk, (fun h => by cases h), (fun h => by cases h)⟩
        · have q6 := hb
          have f8 : l8 = false := by cases hh : l8 with | false => rfl | true => exact absurd ((c8 hh).1) (by rw [q6]; simp)
          have f9 : l9 = false := by cases hh : l9 with | false => rfl | true => exact absurd ((c9 hh)) (by rw [f8]; simp)
          have f10 : l10 = false := by cases hh : l10 with | false => rfl | true => exact absurd ((c10 hh)) (by rw [f9]; simp)
          have f19 : l19 = false := by cases hh : l19 with | false => rfl | true => exact absurd ((c19 hh).2.1) (by rw [f10]; simp)
          have f20 : l20 = false := by cases hh : l20 with | false => rfl | true => exact absurd ((c20 hh)) (by rw [f19]; simp)
          have f21 : l21 = false := by cases hh : l21 with | false => rfl | true => exact absurd ((c21 hh).2) (by rw [f20]; simp)
          have f22 : l22 = false := by cases hh : l22 with | false => rfl | true => exact absurd ((c22 hh).1) (by rw [f21]; simp)
          have hk := hw0 f21
          clear hw0 hw1 hw2
          clear hi' hlt'
          subst q6 f8 f9 f10 f19 f20 f21 f22
          have H3c := hide c3; clear c3
          have H4c := hide c4; clear c4
          have H5c := hide c5; clear c5
          clear c8
          clear c9
          clear c10
          have H13c := hide c13; clear c13
          have H14c := hide c14; clear c14
          have H15c := hide c15; clear c15
          have H17c := hide c17; clear c17
          have H18c := hide c18; clear c18
          clear c19
          clear c20
          clear c21
          clear c22
          refine wpOpIn_step rfl (fun K hK => ?_)
          simp only [Rg.selD_f]
          go_simp
          refine hK _ _ ?_
          exact ⟨_, _, _, _, _, _, true, _, false, false, false, _, _, _, _, _, _, _, _, false, false, false, false, Bs, va, vc, rfl, rfl, H3c.out, H4c.out, H5c.out, (fun h => by cases h), (fun h => by cases h), (fun h => by cases h), H13c.out, H14c.out, H15c.out, H17c.out, H18c.out, (fun h => by cases h), (fun h => by cases h), (fun h => by cases h), (fun h => by cases h), fun _ => hk, (fun h => by cases h), (fun h => by cases h)⟩
        · have q7 := hb
          have f8 : l8 = false := by cases hh : l8 with | false => rfl | true => exact absurd ((c8 hh).2) (by rw [q7]; simp)
          have f9 : l9 = false := by cases hh : l9 with | false => rfl | true => exact absurd ((c9 hh)) (by rw [f8]; simp)
          have f10 : l10 = false := by cases hh : l10 with | false => rfl | true => exact absurd ((c10 hh)) (by rw [f9]; simp)
          have f19 : l19 = false := by cases hh : l19 with | false => rfl | true => exact absurd ((c19 hh).2.1) (by rw [f10]; simp)
          have f20 : l20 = false := by cases hh : l20 with | false => rfl | true => exact absurd ((c20 hh)) (by rw [f19]; simp)
          have f21 : l21 = false := by cases hh : l21 with | false => rfl | true => exact absurd ((c21 hh).2) (by rw [f20]; simp)
          have f22 : l22 = false := by cases hh : l22 with | false => rfl | true => exact absurd ((c22 hh).1) (by rw [f21]; simp)
          have hk := hw0 f21
          clear hw0 hw1 hw2
          clear hi' hlt'
          subst q7 f8 f9 f10 f19 f20 f21 f22
          have H3c := hide c3; clear c3
          have H4c := hide c4; clear c4
          have H5c := hide c5; clear c5
          clear c8
          clear c9
          clear c10
          have H13c := hide c13; clear c13
          have H14c := hide c14; clear c14
          have H15c := hide c15; clear c15
          have H17c := hide c17; clear c17
          have H18c := hide c18; clear c18
          clear c19
          clear c20
          clear c21
          clear c22
          refine wpOpIn_step rfl (fun K hK => ?_)
          simp only [Rg.selD_f]
          go_simp
          refine hK _ _ ?_
          exact ⟨_, _, _, _, _, _, _, true, false, false, false, _, _, _, _, _, _, _, _, false, false, false, false, Bs, va, vc, rfl, rfl, H3c.out, H4c.out, H5c.out, (fun h => by cases h), (fun h => by cases h), (fun h => by cases h), H13c.out, H14c.out, H15c.out, H17c.out, H18c.out, (fun h => by cases h), (fun h => by cases h), (fun h => by cases h), (fun h => by cases h), fun _ => hk, (fun h => by cases h), (fun h => by cases h)⟩
        · obtain ⟨q8, e6, e7⟩ := hb
          have f9 : l9 = false := by cases hh : l9 with | false => rfl | true => exact absurd ((c9 hh)) (by rw [q8]; simp)
          have f10 : l10 = false := by cases hh : l10 with | false => rfl | true => exact absurd ((c10 hh)) (by rw [f9]; simp)
          have f19 : l19 = false := by cases hh : l19 with | false => rfl | true => exact absurd ((c19 hh).2.1) (by rw [f10]; simp)
          have f20 : l20 = false := by cases hh : l20 with | false => rfl | true => exact absurd ((c20 hh)) (by rw [f19]; simp)
          have f21 : l21 = false := by cases hh : l21 with | false => rfl | true => exact absurd ((c21 hh).2) (by rw [f20]; simp)
          have f22 : l22 = false := by cases hh : l22 with | false => rfl | true => exact absurd ((c22 hh).1) (by rw [f21]; simp)
          have hk := hw0 f21
          clear hw0 hw1 hw2
          clear hi' hlt'
          subst q8 e6 e7 f9 f10 f19 f20 f21 f22
          have H3c := hide c3; clear c3
          have H4c := hide c4; clear c4
          have H5c := hide c5; clear c5
          clear c8
          clear c9
          clear c10
          have H13c := hide c13; clear c13
          have H14c := hide c14; clear c14
          have H15c := hide c15; clear c15
          have H17c := hide c17; clear c17
          have H18c := hide c18; clear c18
          clear c19
          clear c20
          clear c21
          clear c22
          refine wpOpIn_step rfl (fun K hK => ?_)
          simp only [Rg.selD_t, Rg.selD_f]
          go_simp
          refine hK _ _ ?_
          exact ⟨_, _, _, _, _, _, true, true, true, false, false, _, _, _, _, _, _, _, _, false, false, false, false, Bs, va, vc, rfl, rfl, H3c.out, H4c.out, H5c.out, fun _ => ⟨rfl, rfl⟩, (fun h => by cases h), (fun h => by cases h), H13c.out, H14c.out, H15c.out, H17c.out, H18c.out, (fun h => by cases h), (fun h => by cases h), (fun h => by cases h), (fun h => by cases h), fun _ => hk, (fun h => by cases h), (fun h => by cases h)⟩
        · obtain ⟨q9, e8⟩ := hb
          obtain ⟨e6, e7⟩ := c8 e8
          have f10 : l10 = false := by cases hh : l10 with | false => rfl | true => exact absurd ((c10 hh)) (by rw [q9]; simp)
          have f19 : l19 = false := by cases hh : l19 with | false => rfl | true => exact absurd ((c19 hh).2.1) (by rw [f10]; simp)
          have f20 : l20 = false := by cases hh : l20 with | false => rfl | true => exact absurd ((c20 hh)) (by rw [f19]; simp)
          have f21 : l21 = false := by cases hh : l21 with | false => rfl | true => exact absurd ((c21 hh).2) (by rw [f20]; simp)
          have f22 : l22 = false := by cases hh : l22 with | false => rfl | true => exact absurd ((c22 hh).1) (by rw [f21]; simp)
          have hk := hw0 f21
          clear hw0 hw1 hw2
          clear hi' hlt'
          subst q9 e6 e7 e8 f10 f19 f20 f21 f22
          have H3c := hide c3; clear c3
          have H4c := hide c4; clear c4
          have H5c := hide c5; clear c5
          clear c8
          clear c9
          clear c10
          have H13c := hide c13; clear c13
          have H14c := hide c14; clear c14
          have H15c := hide c15; clear c15
          have H17c := hide c17; clear c17
          have H18c := hide c18; clear c18
          clear c19
          clear c20
          clear c21
          clear c22
          refine wpOpIn_step rfl (fun K hK => ?_)
          simp only [Rg.selD_t, Rg.selD_f]
          go_simp
          refine hK _ _ ?_
          exact ⟨_, _, _, _, _, _, true, true, true, true, false, _, _, _, _, _, _, _, _, false, false, false, false, Bs, va, vc, rfl, rfl, H3c.out, H4c.out, H5c.out, fun _ => ⟨rfl, rfl⟩, fun _ => rfl, (fun h => by cases h), H13c.out, H14c.out, H15c.out, H17c.out, H18c.out, (fun h => by cases h), (fun h => by cases h), (fun h => by cases h), (fun h => by cases h), fun _ => hk, (fun h => by cases h), (fun h => by cases h)⟩
        · obtain ⟨q10, e9⟩ := hb
          obtain e8 := c9 e9
          obtain ⟨e6, e7⟩ := c8 e8
          have f19 : l19 = false := by cases hh : l19 with | false => rfl | true => exact absurd ((c19 hh).2.1) (by rw [q10]; simp)
          have f20 : l20 = false := by cases hh : l20 with | false => rfl | true => exact absurd ((c20 hh)) (by rw [f19]; simp)
          have f21 : l21 = false := by cases hh : l21 with | false => rfl | true => exact absurd ((c21 hh).2) (by rw [f20]; simp)
          have f22 : l22 = false := by cases hh : l22 with | false => rfl | true => exact absurd ((c22 hh).1) (by rw [f21]; simp)
          have hk := hw0 f21
          clear hw0 hw1 hw2
          have z4 := (HR.out _ hk).2.1
          clear hi' hlt'
          subst q10 e6 e7 e8 e9 f19 f20 f21 f22
          have H3c := hide c3; clear c3
          have H4c := hide c4; clear c4
          have H5c := hide c5; clear c5
          clear c8
          clear c9
          clear c10
          have H13c := hide c13; clear c13
          have H14c := hide c14; clear c14
          have H15c := hide c15; clear c15
          have H17c := hide c17; clear c17
          have H18c := hide c18; clear c18
          clear c19
          clear c20
          clear c21
          clear c22
          refine wpOpIn_step rfl (fun K hK => ?_)
          simp only [Rg.selD_t, Rg.selD_f]
          go_simp
          refine hK _ _ ?_
          exact ⟨_, _, _, _, _, _, true, true, true, true, true, _, _, _, _, _, _, _, _, false, false, false, false, Bs, va, vc, rfl, rfl, H3c.out, H4c.out, H5c.out, fun _ => ⟨rfl, rfl⟩, fun _ => rfl, fun _ => rfl, H13c.out, H14c.out, H15c.out, H17c.out, H18c.out, (fun h => by cases h), (fun h => by cases h), (fun h => by cases h), (fun h => by cases h), fun _ => hk, (fun h => by cases h), (fun h => by cases h)⟩
        · have q11 := hb
          have f13 : l13 = false := by cases hh : l13 with | false => rfl | true => exact absurd ((c13 hh).1) (by rw [q11]; simp)
          have f14 : l14 = false := by cases hh : l14 with | false => rfl | true => exact absurd ((c14 hh)) (by rw [f13]; simp)
          have f15 : l15 = false := by cases hh : l15 with | false => rfl | true => exact absurd ((c15 hh)) (by rw [f14]; simp)
          have f18 : l18 = false := by cases hh : l18 with | false => rfl | true => exact absurd ((c18 hh).1) (by rw [f15]; simp)
          have f19 : l19 = false := by cases hh : l19 with | false => rfl | true => exact absurd ((c19 hh).2.2) (by rw [f18]; simp)
          have f20 : l20 = false := by cases hh : l20 with | false => rfl | true => exact absurd ((c20 hh)) (by rw [f19]; simp)
          have f21 : l21 = false := by cases hh : l21 with | false => rfl | true => exact absurd ((c21 hh).2) (by rw [f20]; simp)
          have f22 : l22 = false := by cases hh : l22 with | false => rfl | true => exact absurd ((c22 hh).1) (by rw [f21]; simp)
          have hk := hw0 f21
          clear hw0 hw1 hw2
          clear hi' hlt'
          subst q11 f13 f14 f15 f18 f19 f20 f21 f22
          have H3c := hide c3; clear c3
          have H4c := hide c4; clear c4
          have H5c := hide c5; clear c5
          have H8c := hide c8; clear c8
          have H9c := hide c9; clear c9
          have H10c := hide c10; clear c10
          clear c13
          clear c14
          clear c15
          have H17c := hide c17; clear c17
          clear c18
          clear c19
          clear c20
          clear c21
          clear c22
          refine wpOpIn_step rfl (fun K hK => ?_)
          simp only [Rg.selD_f]
          go_simp
          refine hK _ _ ?_
          exact ⟨_, _, _, _, _, _, _, _, _, _, _, true, _, false, false, false, _, _, false, false, false, false, false, Bs, va, vc, rfl, rfl, H3c.out, H4c.out, H5c.out, H8c.out, H9c.out, H10c.out, (fun h => by cases h), (fun h => by cases h), (fun h => by cases h), H17c.out, (fun h => by cases h), (fun h => by cases h), (fun h => by cases h), (fun h => by cases h), (fun h => by cases h), fun _ => hk, (fun h => by cases h), (fun h => by cases h)⟩
        · have q12 := hb
          have f13 : l13 = false := by cases hh : l13 with | false => rfl | true => exact absurd ((c13 hh).2) (by rw [q12]; simp)
          have f14 : l14 = false := by cases hh : l14 with | false => rfl | true => exact absurd ((c14 hh)) (by rw [f13]; simp)
          have f15 : l15 = false := by cases hh : l15 with | false => rfl | true => exact absurd ((c15 hh)) (by rw [f14]; simp)
          have f18 : l18 = false := by cases hh : l18 with | false => rfl | true => exact absurd ((c18 hh).1) (by rw [f15]; simp)
          have f19 : l19 = false := by cases hh : l19 with | false => rfl | true => exact absurd ((c19 hh).2.2) (by rw [f18]; simp)
          have f20 : l20 = false := by cases hh : l20 with | false => rfl | true => exact absurd ((c20 hh)) (by rw [f19]; simp)
          have f21 : l21 = false := by cases hh : l21 with | false => rfl | true => exact absurd ((c21 hh).2) (by rw [f20]; simp)
          have f22 : l22 = false := by cases hh : l22 with | false => rfl | true => exact absurd ((c22 hh).1) (by rw [f21]; simp)
          have hk := hw0 f21
          clear hw0 hw1 hw2
          clear hi' hlt'
          subst q12 f13 f14 f15 f18 f19 f20 f21 f22
          have H3c := hide c3; clear c3
          have H4c := hide c4; clear c4
          have H5c := hide c5; clear c5
          have H8c := hide c8; clear c8
          have H9c := hide c9; clear c9
          have H10c := hide c10; clear c10
          clear c13
          clear c14
          clear c15
          have H17c := hide c17; clear c17
          clear c18
          clear c19
          clear c20
          clear c21
          clear c22
          refine wpOpIn_step rfl (fun K hK => ?_)
          simp only [Rg.selD_f]
          go_simp
          refine hK _ _ ?_
          exact ⟨_, _, _, _, _, _, _, _, _, _, _, _, true, false, false, false, _, _, false, false, false, false, false, Bs, va, vc, rfl, rfl, H3c.out, H4c.out, H5c.out, H8c.out, H9c.out, H10c.out, (fun h => by cases h), (fun h => by cases h), (fun h => by cases h), H17c.out, (fun h => by cases h), (fun h => by cases h), (fun h => by cases h), (fun h => by cases h), (fun h => by cases h), fun _ => hk, (fun h => by cases h), (fun h => by cases h)⟩
        · obtain ⟨q13, e11, e12⟩ := hb
          have f14 : l14 = false := by cases hh : l14 with | false => rfl | true => exact absurd ((c14 hh)) (by rw [q13]; simp)
          have f15 : l15 = false := by cases hh : l15 with | false => rfl | true => exact absurd ((c15 hh)) (by rw [f14]; simp)
          have f18 : l18 = false := by cases hh : l18 with | false => rfl | true => exact absurd ((c18 hh).1) (by rw [f15]; simp)
          have f19 : l19 = false := by cases hh : l19 with | false => rfl | true => exact absurd ((c19 hh).2.2) (by rw [f18]; simp)
          have f20 : l20 = false := by cases hh : l20 with | false => rfl | true => exact absurd ((c20 hh)) (by rw [f19]; simp)
          have f21 : l21 = false := by cases hh : l21 with | false => rfl | true => exact absurd ((c21 hh).2) (by rw [f20]; simp)
          have f22 : l22 = false := by cases hh : l22 with | false => rfl | true => exact absurd ((c22 hh).1) (by rw [f21]; simp)
          have hk := hw0 f21
          clear hw0 hw1 hw2
          clear hi' hlt'
          subst q13 e11 e12 f14 f15 f18 f19 f20 f21 f22
          have H3c := hide c3; clear c3
          have H4c := hide c4; clear c4
          have H5c := hide c5; clear c5
          have H8c := hide c8; clear c8
          have H9c := hide c9; clear c9
          have H10c := hide c10; clear c10
          clear c13
          clear c14
          clear c15
          have H17c := hide c17; clear c17
          clear c18
          clear c19
          clear c20
          clear c21
          clear c22
          refine wpOpIn_step rfl (fun K hK => ?_)
          simp only [Rg.selD_t, Rg.selD_f]
          go_simp
          refine hK _ _ ?_
          exact ⟨_, _, _, _, _, _, _, _, _, _, _, true, true, true, false, false, _, _, false, false, false, false, false, Bs, va, vc, rfl, rfl, H3c.out, H4c.out, H5c.out, H8c.out, H9c.out, H10c.out, fun _ => ⟨rfl, rfl⟩, (fun h => by cases h), (fun h => by cases h), H17c.out, (fun h => by cases h), (fun h => by cases h), (fun h => by cases h), (fun h => by cases h), (fun h => by cases h), fun _ => hk, (fun h => by cases h), (fun h => by cases h)⟩
        · obtain ⟨q14, e13⟩ := hb
          obtain ⟨e11, e12⟩ := c13 e13
          have f15 : l15 = false := by cases hh : l15 with | false => rfl | true => exact absurd ((c15 hh)) (by rw [q14]; simp)
          have f18 : l18 = false := by cases hh : l18 with | false => rfl | true => exact absurd ((c18 hh).1) (by rw [f15]; simp)
          have f19 : l19 = false := by cases hh : l19 with | false => rfl | true => exact absurd ((c19 hh).2.2) (by rw [f18]; simp)
          have f20 : l20 = false := by cases hh : l20 with | false => rfl | true => exact absurd ((c20 hh)) (by rw [f19]; simp)
          have f21 : l21 = false := by cases hh : l21 with | false => rfl | true => exact absurd ((c21 hh).2) (by rw [f20]; simp)
          have f22 : l22 = false := by cases hh : l22 with | false => rfl | true => exact absurd ((c22 hh).1) (by rw [f21]; simp)
          have hk := hw0 f21
          clear hw0 hw1 hw2
          clear hi' hlt'
          subst q14 e11 e12 e13 f15 f18 f19 f20 f21 f22
          have H3c := hide c3; clear c3
          have H4c := hide c4; clear c4
          have H5c := hide c5; clear c5
          have H8c := hide c8; clear c8
          have H9c := hide c9; clear c9
          have H10c := hide c10; clear c10
          clear c13
          clear c14
          clear c15
          have H17c := hide c17; clear c17
          clear c18
          clear c19
          clear c20
          clear c21
          clear c22
          refine wpOpIn_step rfl (fun K hK => ?_)
          simp only [Rg.selD_t, Rg.selD_f]
          go_simp
          refine hK _ _ ?_
          exact ⟨_, _, _, _, _, _, _, _, _, _, _, true, true, true, true, false, _, _, false, false, false, false, false, Bs, va, vc, rfl, rfl, H3c.out, H4c.out, H5c.out, H8c.out, H9c.out, H10c.out, fun _ => ⟨rfl, rfl⟩, fun _ => rfl, (fun h => by cases h), H17c.out, (fun h => by cases h), (fun h => by cases h), (fun h => by cases h), (fun h => by cases h), (fun h => by cases h), fun _ => hk, (fun h => by cases h), (fun h => by cases h)⟩
        · obtain ⟨q15, e14⟩ := hb
          obtain e13 := c14 e14
          obtain ⟨e11, e12⟩ := c13 e13
          have f18 : l18 = false := by cases hh : l18 with | false => rfl | true => exact absurd ((c18 hh).1) (by rw [q15]; simp)
          have f19 : l19 = false := by cases hh : l19 with | false => rfl | true => exact absurd ((c19 hh).2.2) (by rw [f18]; simp)
          have f20 : l20 = false := by cases hh : l20 with | false => rfl | true => exact absurd ((c20 hh)) (by rw [f19]; simp)
          have f21 : l21 = false := by cases hh : l21 with | false => rfl | true => exact absurd ((c21 hh).2) (by rw [f20]; simp)
          have f22 : l22 = false := by cases hh : l22 with | false => rfl | true => exact absurd ((c22 hh).1) (by rw [f21]; simp)
          have hk := hw0 f21
          clear hw0 hw1 hw2
          have z4 := (HR.out _ hk).2.2
          clear hi' hlt'
          subst q15 e11 e12 e13 e14 f18 f19 f20 f21 f22
          have H3c := hide c3; clear c3
          have H4c := hide c4; clear c4
          have H5c := hide c5; clear c5
          have H8c := hide c8; clear c8
          have H9c := hide c9; clear c9
          have H10c := hide c10; clear c10
          clear c13
          clear c14
          clear c15
          have H17c := hide c17; clear c17
          clear c18
          clear c19
          clear c20
          clear c21
          clear c22
          refine wpOpIn_step rfl (fun K hK => ?_)
          simp only [Rg.selD_t, Rg.selD_f]
          go_simp
          refine hK _ _ ?_
          exact ⟨_, _, _, _, _, _, _, _, _, _, _, true, true, true, true, true, _, _, false, false, false, false, false, Bs, va, vc, rfl, rfl, H3c.out, H4c.out, H5c.out, H8c.out, H9c.out, H10c.out, fun _ => ⟨rfl, rfl⟩, fun _ => rfl, fun _ => rfl, H17c.out, (fun h => by cases h), (fun h => by cases h), (fun h => by cases h), (fun h => by cases h), (fun h => by cases h), fun _ => hk, (fun h => by cases h), (fun h => by cases h)⟩
        · have q16 := hb
          have f17 : l17 = false := by cases hh : l17 with | false => rfl | true => exact absurd ((c17 hh)) (by rw [q16]; simp)
          have f18 : l18 = false := by cases hh : l18 with | false => rfl | true => exact absurd ((c18 hh).2) (by rw [f17]; simp)
          have f19 : l19 = false := by cases hh : l19 with | false => rfl | true => exact absurd ((c19 hh).2.2) (by rw [f18]; simp)
          have f20 : l20 = false := by cases hh : l20 with | false => rfl | true => exact absurd ((c20 hh)) (by rw [f19]; simp)
          have f21 : l21 = false := by cases hh : l21 with | false => rfl | true => exact absurd ((c21 hh).2) (by rw [f20]; simp)
          have f22 : l22 = false := by cases hh : l22 with | false => rfl | true => exact absurd ((c22 hh).1) (by rw [f21]; simp)
          have hk := hw0 f21
          clear hw0 hw1 hw2
          clear hi' hlt'
          subst q16 f17 f18 f19 f20 f21 f22
          have H3c := hide c3; clear c3
          have H4c := hide c4; clear c4
          have H5c := hide c5; clear c5
          have H8c := hide c8; clear c8
          have H9c := hide c9; clear c9
          have H10c := hide c10; clear c10
          have H13c := hide c13; clear c13
          have H14c := hide c14; clear c14
          have H15c := hide c15; clear c15
          clear c17
          clear c18
          clear c19
          clear c20
          clear c21
          clear c22
          refine wpOpIn_step rfl (fun K hK => ?_)
          simp only [Rg.selD_f]
          go_simp
          refine hK _ _ ?_
          exact ⟨_, _, _, _, _, _, _, _, _, _, _, _, _, _, _, _, true, false, false, false, false, false, false, Bs, va, vc, rfl, rfl, H3c.out, H4c.out, H5c.out, H8c.out, H9c.out, H10c.out, H13c.out, H14c.out, H15c.out, (fun h => by cases h), (fun h => by cases h), (fun h => by cases h), (fun h => by cases h), (fun h => by cases h), (fun h => by cases h), fun _ => hk, (fun h => by cases h), (fun h => by cases h)⟩
        · obtain ⟨q17, e16⟩ := hb
          have f18 : l18 = false := by cases hh : l18 with | false => rfl | true => exact absurd ((c18 hh).2) (by rw [q17]; simp)
          have f19 : l19 = false := by cases hh : l19 with | false => rfl | true => exact absurd ((c19 hh).2.2) (by rw [f18]; simp)
          have f20 : l20 = false := by cases hh : l20 with | false => rfl | true => exact absurd ((c20 hh)) (by rw [f19]; simp)
          have f21 : l21 = false := by cases hh : l21 with | false => rfl | true => exact absurd ((c21 hh).2) (by rw [f20]; simp)
          have f22 : l22 = false := by cases hh : l22 with | false => rfl | true => exact absurd ((c22 hh).1) (by rw [f21]; simp)
          have hk := hw0 f21
          clear hw0 hw1 hw2
          clear hi' hlt'
          subst q17 e16 f18 f19 f20 f21 f22
          have H3c := hide c3; clear c3
          have H4c := hide c4; clear c4
          have H5c := hide c5; clear c5
          have H8c := hide c8; clear c8
          have H9c := hide c9; clear c9
          have H10c := hide c10; clear c10
          have H13c := hide c13; clear c13
          have H14c := hide c14; clear c14
          have H15c := hide c15; clear c15
          clear c17
          clear c18
          clear c19
          clear c20
          clear c21
          clear c22
          refine wpOpIn_step rfl (fun K hK => ?_)
          simp only [Rg.selD_t, Rg.selD_f]
          go_simp
          refine hK _ _ ?_
          exact ⟨_, _, _, _, _, _, _, _, _, _, _, _, _, _, _, _, true, true, false, false, false, false, false, Bs, va, vc, rfl, rfl, H3c.out, H4c.out, H5c.out, H8c.out, H9c.out, H10c.out, H13c.out, H14c.out, H15c.out, fun _ => rfl, (fun h => by cases h), (fun h => by cases h), (fun h => by cases h), (fun h => by cases h), (fun h => by cases h), fun _ => hk, (fun h => by cases h), (fun h => by cases h)⟩
        · obtain ⟨q18, e15, e17⟩ := hb
          obtain e16 := c17 e17
          obtain e14 := c15 e15
          obtain e13 := c14 e14
          obtain ⟨e11, e12⟩ := c13 e13
          have f19 : l19 = false := by cases hh : l19 with | false => rfl | true => exact absurd ((c19 hh).2.2) (by rw [q18]; simp)
          have f20 : l20 = false := by cases hh : l20 with | false => rfl | true => exact absurd ((c20 hh)) (by rw [f19]; simp)
          have f21 : l21 = false := by cases hh : l21 with | false => rfl | true => exact absurd ((c21 hh).2) (by rw [f20]; simp)
          have f22 : l22 = false := by cases hh : l22 with | false => rfl | true => exact absurd ((c22 hh).1) (by rw [f21]; simp)
          have hk := hw0 f21
          clear hw0 hw1 hw2
          clear hi' hlt'
          subst q18 e11 e12 e13 e14 e15 e16 e17 f19 f20 f21 f22
          have H3c := hide c3; clear c3
          have H4c := hide c4; clear c4
          have H5c := hide c5; clear c5
          have H8c := hide c8; clear c8
          have H9c := hide c9; clear c9
          have H10c := hide c10; clear c10
          clear c13
          clear c14
          clear c15
          clear c17
          clear c18
          clear c19
          clear c20
          clear c21
          clear c22
          refine wpOpIn_step rfl (fun K hK => ?_)
          simp only [Rg.selD_t, Rg.selD_f]
          go_simp
          refine hK _ _ ?_
          exact ⟨_, _, _, _, _, _, _, _, _, _, _, true, true, true, true, true, true, true, true, false, false, false, false, Bs, va, vc, rfl, rfl, H3c.out, H4c.out, H5c.out, H8c.out, H9c.out, H10c.out, fun _ => ⟨rfl, rfl⟩, fun _ => rfl, fun _ => rfl, fun _ => rfl, fun _ => ⟨rfl, rfl⟩, (fun h => by cases h), (fun h => by cases h), (fun h => by cases h), (fun h => by cases h), fun _ => hk, (fun h => by cases h), (fun h => by cases h)⟩
        · obtain ⟨q19, e5, e10, e18⟩ := hb
          obtain ⟨e15, e17⟩ := c18 e18
          obtain e16 := c17 e17
          obtain e14 := c15 e15
          obtain e13 := c14 e14
          obtain ⟨e11, e12⟩ := c13 e13
          obtain e9 := c10 e10
          obtain e8 := c9 e9
          obtain ⟨e6, e7⟩ := c8 e8
          obtain e4 := c5 e5
          obtain e3 := c4 e4
          obtain ⟨e1, e2⟩ := c3 e3
          have f20 : l20 = false := by cases hh : l20 with | false => rfl | true => exact absurd ((c20 hh)) (by rw [q19]; simp)
          have f21 : l21 = false := by cases hh : l21 with | false => rfl | true => exact absurd ((c21 hh).2) (by rw [f20]; simp)
          have f22 : l22 = false := by cases hh : l22 with | false => rfl | true => exact absurd ((c22 hh).1) (by rw [f21]; simp)
          have hk := hw0 f21
          clear hw0 hw1 hw2
          clear hi' hlt'
          subst q19 e1 e2 e3 e4 e5 e6 e7 e8 e9 e10 e11 e12 e13 e14 e15 e16 e17 e18 f20 f21 f22
          clear c3
          clear c4
          clear c5
          clear c8
          clear c9
          clear c10
          clear c13
          clear c14
          clear c15
          clear c17
          clear c18
          clear c19
          clear c20
          clear c21
          clear c22
          refine wpOpIn_step rfl (fun K hK => ?_)
          simp only [Rg.selD_t, Rg.selD_f]
          go_simp
          refine hK _ _ ?_
          exact ⟨_, true, true, true, true, true, true, true, true, true, true, true, true, true, true, true, true, true, true, true, false, false, false, Bs, va, vc, rfl, rfl, fun _ => ⟨rfl, rfl⟩, fun _ => rfl, fun _ => rfl, fun _ => ⟨rfl, rfl⟩, fun _ => rfl, fun _ => rfl, fun _ => ⟨rfl, rfl⟩, fun _ => rfl, fun _ => rfl, fun _ => rfl, fun _ => ⟨rfl, rfl⟩, fun _ => ⟨rfl, rfl, rfl⟩, (fun h => by cases h), (fun h => by cases h), (fun h => by cases h), fun _ => hk, (fun h => by cases h), (fun h => by cases h)⟩
        · obtain ⟨q20, e19⟩ := hb
          obtain ⟨e5, e10, e18⟩ := c19 e19
          obtain ⟨e15, e17⟩ := c18 e18
          obtain e16 := c17 e17
          obtain e14 := c15 e15
          obtain e13 := c14 e14
          obtain ⟨e11, e12⟩ := c13 e13
          obtain e9 := c10 e10
          obtain e8 := c9 e9
          obtain ⟨e6, e7⟩ := c8 e8
          obtain e4 := c5 e5
          obtain e3 := c4 e4
          obtain ⟨e1, e2⟩ := c3 e3
          have f21 : l21 = false := by cases hh : l21 with | false => rfl | true => exact absurd ((c21 hh).2) (by rw [q20]; simp)
          have f22 : l22 = false := by cases hh : l22 with | false => rfl | true => exact absurd ((c22 hh).1) (by rw [f21]; simp)
          have hk := hw0 f21
          clear hw0 hw1 hw2
          clear hi' hlt'
          subst q20 e1 e2 e3 e4 e5 e6 e7 e8 e9 e10 e11 e12 e13 e14 e15 e16 e17 e18 e19 f21 f22
          clear c3
          clear c4
          clear c5
          clear c8
          clear c9
          clear c10
          clear c13
          clear c14
          clear c15
          clear c17
          clear c18
          clear c19
          clear c20
          clear c21
          clear c22
          refine wpOpIn_step rfl (fun K hK => ?_)
          simp only [Rg.selD_t, Rg.selD_f]
          go_simp
          refine hK _ _ ?_
          exact ⟨_, true, true, true, true, true, true, true, true, true, true, true, true, true, true, true, true, true, true, true, true, false, false, _, va, vc, rfl, rfl, fun _ => ⟨rfl, rfl⟩, fun _ => rfl, fun _ => rfl, fun _ => ⟨rfl, rfl⟩, fun _ => rfl, fun _ => rfl, fun _ => ⟨rfl, rfl⟩, fun _ => rfl, fun _ => rfl, fun _ => rfl, fun _ => ⟨rfl, rfl⟩, fun _ => ⟨rfl, rfl, rfl⟩, fun _ => rfl, (fun h => by cases h), (fun h => by cases h), fun _ => hk.andAlloc _, (fun _ _ => hide (heap_alloc_new _ _)), (fun h => by cases h)⟩
        · obtain ⟨q21, e0, e20⟩ := hb
          obtain e19 := c20 e20
          obtain ⟨e5, e10, e18⟩ := c19 e19
          obtain ⟨e15, e17⟩ := c18 e18
          obtain e16 := c17 e17
          obtain e14 := c15 e15
          obtain e13 := c14 e14
          obtain ⟨e11, e12⟩ := c13 e13
          obtain e9 := c10 e10
          obtain e8 := c9 e9
          obtain ⟨e6, e7⟩ := c8 e8
          obtain e4 := c5 e5
          obtain e3 := c4 e4
          obtain ⟨e1, e2⟩ := c3 e3
          have f22 : l22 = false := by cases hh : l22 with | false => rfl | true => exact absurd ((c22 hh).1) (by rw [q21]; simp)
          have hk := hw0 q21
          have hB := hw1 e20 q21
          clear hw0 hw1 hw2
          obtain ⟨va7, vc7, W2, hrun, hA⟩ := HV.out _ _ hk hB
          clear hi' hlt'
          subst q21 e0 e1 e2 e3 e4 e5 e6 e7 e8 e9 e10 e11 e12 e13 e14 e15 e16 e17 e18 e19 e20 f22
          clear c3
          clear c4
          clear c5
          clear c8
          clear c9
          clear c10
          clear c13
          clear c14
          clear c15
          clear c17
          clear c18
          clear c19
          clear c20
          clear c21
          clear c22
          simp only [Rg.selD_t, Rg.selD_f]
          refine Ord.wpOpIn_append rfl rfl (.tmp 47) (.tmp 67) 22 rfl _ _ _ rfl rfl hrun ?_
          exact ⟨true, true, true, true, true, true, true, true, true, true, true, true, true, true, true, true, true, true, true, true, true, true, false, Bs, _, _, rfl, rfl, fun _ => ⟨rfl, rfl⟩, fun _ => rfl, fun _ => rfl, fun _ => ⟨rfl, rfl⟩, fun _ => rfl, fun _ => rfl, fun _ => ⟨rfl, rfl⟩, fun _ => rfl, fun _ => rfl, fun _ => rfl, fun _ => ⟨rfl, rfl⟩, fun _ => ⟨rfl, rfl, rfl⟩, fun _ => rfl, fun _ => ⟨rfl, rfl⟩, (fun h => by cases h), (fun h => by cases h), (fun _ h => by cases h), (fun _ => hA)⟩
        · have q22 : l22 = false := by clear hw0 hw1 hw2; first | exact hb.1 | (cases l22 <;> simp_all)
          have e21 : l21 = true := by clear hw0 hw1 hw2; (cases l21 <;> simp_all)
          have e0 : l0 = true := by clear hw0 hw1 hw2; (cases l0 <;> simp_all)
          have e1 : l1 = true := by clear hw0 hw1 hw2; (cases l1 <;> simp_all)
          have e2 : l2 = true := by clear hw0 hw1 hw2; (cases l2 <;> simp_all)
          have e3 : l3 = true := by clear hw0 hw1 hw2; (cases l3 <;> simp_all)
          have e4 : l4 = true := by clear hw0 hw1 hw2; (cases l4 <;> simp_all)
          have e5 : l5 = true := by clear hw0 hw1 hw2; (cases l5 <;> simp_all)
          have e6 : l6 = true := by clear hw0 hw1 hw2; (cases l6 <;> simp_all)
          have e7 : l7 = true := by clear hw0 hw1 hw2; (cases l7 <;> simp_all)
          have e8 : l8 = true := by clear hw0 hw1 hw2; (cases l8 <;> simp_all)
          have e9 : l9 = true := by clear hw0 hw1 hw2; (cases l9 <;> simp_all)
          have e10 : l10 = true := by clear hw0 hw1 hw2; (cases l10 <;> simp_all)
          have e11 : l11 = true := by clear hw0 hw1 hw2; (cases l11 <;> simp_all)
          have e12 : l12 = true := by clear hw0 hw1 hw2; (cases l12 <;> simp_all)
          have e13 : l13 = true := by clear hw0 hw1 hw2; (cases l13 <;> simp_all)
          have e14 : l14 = true := by clear hw0 hw1 hw2; (cases l14 <;> simp_all)
          have e15 : l15 = true := by clear hw0 hw1 hw2; (cases l15 <;> simp_all)
          have e16 : l16 = true := by clear hw0 hw1 hw2; (cases l16 <;> simp_all)
          have e17 : l17 = true := by clear hw0 hw1 hw2; (cases l17 <;> simp_all)
          have e18 : l18 = true := by clear hw0 hw1 hw2; (cases l18 <;> simp_all)
          have e19 : l19 = true := by clear hw0 hw1 hw2; (cases l19 <;> simp_all)
          have e20 : l20 = true := by clear hw0 hw1 hw2; (cases l20 <;> simp_all)
          have hO := hw2 e21
          clear hw0 hw1 hw2 hb
          clear hi' hlt'
          subst q22 e0 e1 e2 e3 e4 e5 e6 e7 e8 e9 e10 e11 e12 e13 e14 e15 e16 e17 e18 e19 e20 e21
          clear c3
          clear c4
          clear c5
          clear c8
          clear c9
          clear c10
          clear c13
          clear c14
          clear c15
          clear c17
          clear c18
          clear c19
          clear c20
          clear c21
          clear c22
          refine wpOpIn_step rfl (fun K hK => ?_)
          simp only [Rg.selD_t, Rg.selD_f]
          go_simp
          refine hK _ _ ?_
          exact ⟨true, true, true, true, true, true, true, true, true, true, true, true, true, true, true, true, true, true, true, true, true, true, true, Bs, va, vc, rfl, rfl, fun _ => ⟨rfl, rfl⟩, fun _ => rfl, fun _ => rfl, fun _ => ⟨rfl, rfl⟩, fun _ => rfl, fun _ => rfl, fun _ => ⟨rfl, rfl⟩, fun _ => rfl, fun _ => rfl, fun _ => rfl, fun _ => ⟨rfl, rfl⟩, fun _ => ⟨rfl, rfl, rfl⟩, fun _ => rfl, fun _ => ⟨rfl, rfl⟩, fun _ => ⟨rfl, rfl, rfl, rfl, rfl, rfl, rfl, rfl, rfl, rfl, rfl, rfl, rfl, rfl, rfl, rfl, rfl, rfl, rfl, rfl, rfl, rfl⟩, (fun h => by cases h), (fun _ h => by cases h), (fun _ => hO)⟩
      case fin =>
        rintro listed a w' ⟨l0, l1, l2, l3, l4, l5, l6, l7, l8, l9, l10, l11, l12, l13, l14, l15, l16, l17, l18, l19, l20, l21, l22, Bs, va, vc, rfl, rfl, c3, c4, c5, c8, c9, c10, c13, c14, c15, c17, c18, c19, c20, c21, c22, hw0, hw1, hw2⟩ hi'
        have hx := fun i => Ord.not_ready hi' (i := i)
        have g0 : l0 = true := by have g := hx 0 (by simp); simp [Region.binds] at g; exact g
        have g1 : l1 = true := by have g := hx 1 (by simp); simp [Region.binds] at g; exact g
        have g2 : l2 = true := by have g := hx 2 (by simp); simp [Region.binds] at g; exact g
        have g3 : l3 = true := by have g := hx 3 (by simp); simp [Region.binds] at g; cases hh : l3 with | true => rfl | false => exact absurd (g hh g1) (by rw [g2]; simp)
        have g4 : l4 = true := by have g := hx 4 (by simp); simp [Region.binds] at g; cases hh : l4 with | true => rfl | false => exact absurd (g hh ) (by rw [g3]; simp)
        have g5 : l5 = true := by have g := hx 5 (by simp); simp [Region.binds] at g; cases hh : l5 with | true => rfl | false => exact absurd (g hh ) (by rw [g4]; simp)
        have g6 : l6 = true := by have g := hx 6 (by simp); simp [Region.binds] at g; exact g
        have g7 : l7 = true := by have g := hx 7 (by simp); simp [Region.binds] at g; exact g
        have g8 : l8 = true := by have g := hx 8 (by simp); simp [Region.binds] at g; cases hh : l8 with | true => rfl | false => exact absurd (g hh g6) (by rw [g7]; simp)
        have g9 : l9 = true := by have g := hx 9 (by simp); simp [Region.binds] at g; cases hh : l9 with | true => rfl | false => exact absurd (g hh ) (by rw [g8]; simp)
        have g10 : l10 = true := by have g := hx 10 (by simp); simp [Region.binds] at g; cases hh : l10 with | true => rfl | false => exact absurd (g hh ) (by rw [g9]; simp)
        have g11 : l11 = true := by have g := hx 11 (by simp); simp [Region.binds] at g; exact g
        have g12 : l12 = true := by have g := hx 12 (by simp); simp [Region.binds] at g; exact g
        have g13 : l13 = true := by have g := hx 13 (by simp); simp [Region.binds] at g; cases hh : l13 with | true => rfl | false => exact absurd (g hh g11) (by rw [g12]; simp)
        have g14 : l14 = true := by have g := hx 14 (by simp); simp [Region.binds] at g; cases hh : l14 with | true => rfl | false => exact absurd (g hh ) (by rw [g13]; simp)
        have g15 : l15 = true := by have g := hx 15 (by simp); simp [Region.binds] at g; cases hh : l15 with | true => rfl | false => exact absurd (g hh ) (by rw [g14]; simp)
        have g16 : l16 = true := by have g := hx 16 (by simp); simp [Region.binds] at g; exact g
        have g17 : l17 = true := by have g := hx 17 (by simp); simp [Region.binds] at g; cases hh : l17 with | true => rfl | false => exact absurd (g hh ) (by rw [g16]; simp)
        have g18 : l18 = true := by have g := hx 18 (by simp); simp [Region.binds] at g; cases hh : l18 with | true => rfl | false => exact absurd (g hh g15) (by rw [g17]; simp)
        have g19 : l19 = true := by have g := hx 19 (by simp); simp [Region.binds] at g; cases hh : l19 with | true => rfl | false => exact absurd (g hh g5 g10) (by rw [g18]; simp)
        have g20 : l20 = true := by have g := hx 20 (by simp); simp [Region.binds] at g; cases hh : l20 with | true => rfl | false => exact absurd (g hh ) (by rw [g19]; simp)
        have g21 : l21 = true := by have g := hx 21 (by simp); simp [Region.binds] at g; cases hh : l21 with | true => rfl | false => exact absurd (g hh g0) (by rw [g20]; simp)
        have g22 : l22 = true := by have g := hx 22 (by simp); simp [Region.binds] at g; clear hw0 hw1 hw2; (cases l22 <;> simp_all)
        subst g0 g1 g2 g3 g4 g5 g6 g7 g8 g9 g10 g11 g12 g13 g14 g15 g16 g17 g18 g19 g20 g21 g22
        have hO := hw2 rfl
        clear c3 c4 c5 c8 c9 c10 c13 c14 c15 c17 c18 c19 c20 c21 c22 hi' hx hw0 hw1 hw2
        simp only [Rg.selD_t]
        have hO2 : OUA va vc w' := hO
        rw [HZ.out] at hO2
        have HY := hide hO2
        clear hO2 hO HR HV HZ
        go_wp2
        exact ⟨⟨i + 1, va, vc, rfl, by go_num, by omega, HY⟩, by simp [intOf]; omega⟩
    · have hge : ¬ (i : Int) < (NM : Int) := by omega
      obtain rfl : NM = i := by omega
      obtain ⟨hrow, kwr⟩ := hI.out
      rw [List.take_of_length_le (by rw [HU.out.2.2.2.1]; exact Nat.le_refl _)] at hrow
      obtain ⟨wl, ewl⟩ : ∃ wl : World, wl = wr := ⟨_, rfl⟩
      subst ewl
      have HS := hide (And.intro hrow kwr)
      clear hI hrow kwr
      obtain ⟨j0, hjT, hp0, hp1, hp2⟩ := info_parts info56z
      go_wp2
      go_loopw [13, 14] (fun kv iv wr => ∃ (i m : Nat) (ka : Option Addr) (kc : Nat), kv = .slice ka m kc ∧ iv = .int .i64 (i : Int) ∧ i ≤ N ∧ m ≤ i ∧ Hid (∃ k' : List Int, k'.length = m ∧ Ris k' ∧ (∀ x ∈ k', x ∈ ks) ∧ wr.ownsRow wl.heap.size 24 1 (.slice ka m kc) m (ucs k') ∧ Kp Nu wl wr)) (fun _ iv _ => N - (intOf iv).toNat)
      case atStart => exact ⟨0, 0, none, 0, rfl, rfl, Nat.zero_le _, Nat.le_refl _, hide ⟨[], rfl, (fun i a b ha => by simp at ha), (fun x hx => by cases hx), World.ownsRow_nil _ _ _ _, Kp.refl _ _⟩⟩
      case round =>
        obtain ⟨i, m, ka, kc, rfl, rfl, hi, hm, hI⟩ := hrel
        have hi0 : (0 : Int) ≤ (i : Int) := by omega
        by_cases hlt : i < N
        · have hltI : (i : Int) < (N : Int) := by omega
          have eti : (i : Int).toNat = i := by omega
          obtain ⟨k', ek, hris, hmem, hrow, kk⟩ := hI.out
          obtain ⟨hM, hk, eN, eNM, hkr⟩ := HU.out
          obtain ⟨x, hx⟩ : ∃ x, ks[i]? = some x := ⟨_, List.getElem?_eq_getElem (by rw [eN]; exact hlt)⟩
          have hkw := hk.nu (HS.out.2.andNu kk)
          obtain ⟨ax, cx, eax, _, hat⟩ := hkw
          simp only [Value.slice.injEq] at eax
          obtain ⟨rfl, _, ecx⟩ := eax
          obtain ⟨ba, hba, y0⟩ := hat i x hx
          subst hba
          have AP : ∀ (wx : World), Kp Nu wr wx → (∀ y, k'[k'.length - 1]? = some y → k' ≠ [] → y < x) → Hid (∀ (g cap : Nat) (w' : World), w'.ownsRow wl.heap.size 24 1 (.slice (some ⟨g, 0, none⟩) (m + 1) cap) (m + 1) (ucs k' ++ [.int .u64 x]) → wx.grownBy w' (Value.slice ka m kc).ownBlock → ∃ k2 : List Int, k2.length = m + 1 ∧ Ris k2 ∧ (∀ x ∈ k2, x ∈ ks) ∧ w'.ownsRow wl.heap.size 24 1 (.slice (some ⟨g, 0, none⟩) (m + 1) cap) (m + 1) (ucs k2) ∧ Kp Nu wl w') := fun wx kx hlast => hide (fun g cap w' h1 h2 => ⟨k' ++ [x], by rw [List.length_append, ek]; rfl, ris_snoc hris hlast, fun z hz => (by
            rcases List.mem_append.1 hz with hz | hz
            · exact hmem z hz
            · simp only [List.mem_singleton] at hz
              rw [hz]; exact List.mem_of_getElem? hx), by unfold ucs at h1 ⊢; rw [List.map_append]; exact h1, (kk.andNu kx).trans (Kp.of_grown h2) (fun g hg e => by have := (hrow.lt g e.symm).1; omega)⟩)
          have HJ := hide (And.intro hrow (And.intro kk (And.intro ek (And.intro hris (And.intro hmem AP)))))
          by_cases hm0 : m = 0
          · have x6 : ((m : Int) == 0) = true := by simp [hm0]
            have HL : Hid (∀ y, k'[k'.length - 1]? = some y → k' ≠ [] → y < x) := hide (fun y _ hne => absurd (List.eq_nil_of_length_eq_zero (ek.trans hm0)) hne)
            clear hI hris hmem hrow kk hM hk eN eNM hkr hx hat ecx ek hm0
            go_wp2_with fail
            go_quiet (fail)
            go_wp2_with (at_builtin; refine unhid ?_)
            refine wpList_append_lies _ rfl _ _ 23 rfl wl.heap.size 24 j0 _ 1 8 Tryz.underlying23 hjT hp0 hp1 hp2 rfl (by decide) (.slice ka m kc) m (ucs k') rfl ((own_dn HJ.out.1 _).alloc _) ⟨wr.heap.size, 0, none⟩ 1 1 [.int .u64 x] (by first | rfl | (simp; done)) rfl (World.news_of_block (heap_alloc_new _ _)) (by simp [Value.oneCell']) (by decide) (by unfold maxLen; omega) (by omega) (by have := HJ.out.2.1.size; simp at this ⊢; omega) _ rfl ?_
            intro g3 cap3 w3 hown3 hgrow3 hat3 hlt3
            have HN := hide ((AP _ ((kp_dn wr _).andAlloc _) HL.out).out g3 cap3 w3 hown3 hgrow3)
            clear hown3 hgrow3 hat3 hlt3 AP
            go_wp2
            exact ⟨⟨i + 1, m + 1, some ⟨g3, 0, none⟩, cap3, rfl, by go_num, by omega, by omega, HN⟩, by simp [intOf]; omega⟩
          · have x6 : ((m : Int) == 0) = false := by simp [hm0]
            obtain ⟨y, hy⟩ : ∃ y, k'[m - 1]? = some y := ⟨_, List.getElem?_eq_getElem (by omega)⟩
            obtain ⟨kb, kc', ekb, _, y1, _⟩ := row1_at (xs := ucs k') (v := .slice ka m kc) (B := wl.heap.size) (w := wr) (e := 24) (i := m - 1) (x := .int .u64 y) (by rw [ucs_len, ek]; exact hrow) (by unfold ucs; rw [List.getElem?_map, hy]; rfl)
            simp only [Value.slice.injEq] at ekb
            obtain ⟨rfl, em0, ekc⟩ := ekb
            clear em0
            have em1 : IntKind.i64.wrap ((m : Int) - 1) = (m : Int) - 1 := by rw [IntKind.wrap_i64]; omega
            have em2 : (0 : Int) ≤ (m : Int) - 1 := by omega
            have em3 : (m : Int) - 1 < (m : Int) := by omega
            have em4 : ((m : Int) - 1).toNat = m - 1 := by omega
            by_cases hyx : y < x
            · have x7 : decide (y < x) = true := by simpa using hyx
              have HL : Hid (∀ y, k'[k'.length - 1]? = some y → k' ≠ [] → y < x) := hide (fun z hz _ => by rw [ek, hy] at hz; cases hz; exact hyx)
              clear hI hris hmem hrow kk hM hk eN eNM hkr hx hat ecx ek hm0 hy ekc hyx
              go_wp2_with fail
              go_quiet (fail)
              go_wp2_with (at_builtin; refine unhid ?_)
              refine wpList_append_lies _ rfl _ _ 23 rfl wl.heap.size 24 j0 _ 1 8 Tryz.underlying23 hjT hp0 hp1 hp2 rfl (by decide) (.slice (some ⟨kb, 0, none⟩) m kc) m (ucs k') rfl ((own_dn HJ.out.1 _).alloc _) ⟨wr.heap.size, 0, none⟩ 1 1 [.int .u64 x] (by first | rfl | (simp; done)) rfl (World.news_of_block (heap_alloc_new _ _)) (by simp [Value.oneCell']) (by decide) (by unfold maxLen; omega) (by omega) (by have := HJ.out.2.1.size; simp at this ⊢; omega) _ rfl ?_
              intro g3 cap3 w3 hown3 hgrow3 hat3 hlt3
              have HN := hide ((AP _ ((kp_dn wr _).andAlloc _) HL.out).out g3 cap3 w3 hown3 hgrow3)
              clear hown3 hgrow3 hat3 hlt3 AP
              go_wp2
              exact ⟨⟨i + 1, m + 1, some ⟨g3, 0, none⟩, cap3, rfl, by go_num, by omega, by omega, HN⟩, by simp [intOf]; omega⟩
            · have x7 : decide (y < x) = false := by simpa using hyx
              clear hI hris hmem hrow kk hM hk eN eNM hkr hx hat ecx ek hm0 hy ekc hyx AP
              go_wp2_with fail
              go_quiet (fail)
              go_wp2
              obtain ⟨hrow, kk, ek, hris, hmem, _⟩ := HJ.out
              exact ⟨⟨i + 1, m, some ⟨kb, 0, none⟩, kc, rfl, by go_num, by omega, by omega, hide ⟨k', ek, hris, hmem, own_dn hrow _, kk.andNu (kp_dn wr _)⟩⟩, by simp [intOf]; omega⟩
        · have hge : ¬ (i : Int) < (N : Int) := by omega
          obtain rfl : N = i := by omega
          go_wp2
          go_ret3
          obtain ⟨k', ek, hris, hmem, hrow, kk⟩ := hI.out
          obtain ⟨hM, hk, eN, eNM, hkr⟩ := HU.out
          obtain ⟨g1, g2, g3, g4⟩ := HG.out
          obtain ⟨hs1, kw1⟩ := HS.out
          have hs2 := own_keep hs1 (fun g e => kk.block g (own_lt hs1 e) (fun h => h))
          refine ⟨.inr ⟨⟨⟨by omega, by omega⟩, g2, by omega, by omega⟩, n', _, _, k', rfl, rfl, ?_, ?_, hris, hmem, by omega⟩, kw1.andNu kk⟩
          · rw [eNM]; exact hs2
          · rw [ek]; exact own_base hrow kw1.size
end Go.Proofs.YtbifmcadllilhaaGreat.Rg
