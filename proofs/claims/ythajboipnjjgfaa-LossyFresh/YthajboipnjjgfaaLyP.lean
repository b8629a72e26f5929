import Derived.Test.YthajboipnjjgfaaLyO
namespace Go.Proofs.Ythajboipnjjgfaa.Ly
open Go.RowKit Go.Maps
set_option linter.unusedVariables false

def cut (L : List Gm) (i : Nat) : List Gm := L.take i ++ L.drop (i + 1)
theorem cut_length {L : List Gm} {i : Nat} (h : i < L.length) : (cut L i).length = L.length - 1 := by
  simp [cut]; omega
theorem cells_take (L : List Gm) (i : Nat) : (cells L).take (i * 3) = cells (L.take i) := by
  induction L generalizing i with
  | nil => simp [cells]
  | cons g r ih =>
    cases i with
    | zero => simp [cells]
    | succ i =>
      have := ih i
      simp only [cells, List.flatMap_cons, List.take_succ_cons] at this ⊢
      rw [← this, List.take_append]
      have e : (i + 1) * 3 - g.cells.length = i * 3 := by simp [Gm.cells]; omega
      rw [e, List.take_of_length_le (by simp [Gm.cells]; omega)]
theorem cells_drop (L : List Gm) (i : Nat) : (cells L).drop (i * 3) = cells (L.drop i) := by
  induction L generalizing i with
  | nil => simp [cells]
  | cons g r ih =>
    cases i with
    | zero => simp [cells]
    | succ i =>
      have := ih i
      simp only [cells, List.flatMap_cons, List.drop_succ_cons] at this ⊢
      rw [← this, List.drop_append]
      have e : (i + 1) * 3 - g.cells.length = i * 3 := by simp [Gm.cells]; omega
      rw [e, List.drop_eq_nil_of_le (by simp [Gm.cells]; omega), List.nil_append]

theorem cells_one {L : List Gm} (h : ∀ g ∈ L, ∃ ad n cap, g.d = .slice ad n cap) : ∀ u ∈ cells L, u.oneCell' = true := by
  intro u hu
  simp only [cells, List.mem_flatMap] at hu
  obtain ⟨g, hg, hu⟩ := hu
  obtain ⟨ad, n, cap, e⟩ := h g hg
  simp only [Gm.cells, List.mem_cons, List.not_mem_nil, or_false] at hu
  rcases hu with rfl | rfl | rfl
  · rfl
  · rfl
  · rw [e]; rfl

set_option maxRecDepth 100000 in
set_option maxHeartbeats 2000000 in
theorem del_mid {P : World → Prop} {w W1 W2 : World} {r cap K i : Nat} (hi : i ≤ K) (hMc : K + 1 ≤ cap) (hadr : i + 1 < cap) (hM4 : (K : Int) < 4096)
    (HRUN : Hid (∀ (a : Addr) (c : Nat), (a = ⟨r, (i + 1) * 3, none⟩ ∨ K = i) → (Builtin.append_ #[34, 34] 34 #[.slice (some ⟨r, 0, none⟩) i cap, .slice (some a) (K - i) c]).run Try.prog w.drew = .ok (.slice (some ⟨r, 0, none⟩) K cap) W1))
    (hcl : ∀ cp ty, (Builtin.clear_ #[34] ty #[.slice (some ⟨r, K * 3, none⟩) 1 cp]).run Try.prog W1 = .ok (.tuple #[]) W2) (HFIN : Hid (P W2)) :
    Calls Try.prog 49 #[.slice (some ⟨r, 0, none⟩) (K + 1) cap, .int .i64 (i : Int), .int .i64 ((i : Int) + 1)] w fun e w' => e = .returned (.slice (some ⟨r, 0, none⟩) K cap) ∧ P w' := by
  have mixed : Try.prog.follows .mixedOrders = true := by kernel_rfl
  have hi0 : (0 : Int) ≤ (i : Int) := by omega
  have hi2 : (0 : Int) ≤ (i : Int) + 1 := by omega
  have hiK : (i : Int) ≤ (K : Int) := by omega
  have hne : ((i : Int) == (i : Int) + 1) = false := by simp; omega
  have hK1 : ((K + 1 : Nat) : Int) = (K : Int) + 1 := by omega
  have hic : i ≤ cap := by omega
  have hic1 : i + 1 ≤ K + 1 := by omega
  have hcne : ¬ cap = i + 1 := by omega
  have HR2 := hide (HRUN.out ⟨r, (i + 1) * 3, none⟩ (cap - (i + 1)) (.inl rfl))
  clear HRUN
  go_enter Try.func49, Try.ntmps49
  go_wp2_with fail
  go_region_law (first | (refine step_append_row rfl (.tmp 22) (.tmp 25) 34 34 rfl _ _ rfl rfl _ _ HR2.out ?_))
  all_goals go_wp2
  all_goals go_ret
  all_goals exact ⟨rfl, HFIN.out⟩

set_option maxRecDepth 100000 in
set_option maxHeartbeats 2000000 in
theorem del_end {P : World → Prop} {w W1 W2 : World} {r K : Nat} (hM4 : (K : Int) < 4096)
    (HRUN : ∀ (a : Addr) (c : Nat), (Builtin.append_ #[34, 34] 34 #[.slice (some ⟨r, 0, none⟩) K (K + 1), .slice (some a) 0 c]).run Try.prog w.drew = .ok (.slice (some ⟨r, 0, none⟩) K (K + 1)) W1)
    (hcl : ∀ cp ty, (Builtin.clear_ #[34] ty #[.slice (some ⟨r, K * 3, none⟩) 1 cp]).run Try.prog W1 = .ok (.tuple #[]) W2) (HFIN : Hid (P W2)) :
    Calls Try.prog 49 #[.slice (some ⟨r, 0, none⟩) (K + 1) (K + 1), .int .i64 (K : Int), .int .i64 ((K : Int) + 1)] w fun e w' => e = .returned (.slice (some ⟨r, 0, none⟩) K (K + 1)) ∧ P w' := by
  have mixed : Try.prog.follows .mixedOrders = true := by kernel_rfl
  have hi0 : (0 : Int) ≤ (K : Int) := by omega
  have hi2 : (0 : Int) ≤ (K : Int) + 1 := by omega
  have hKK : (K : Int) ≤ (K : Int) + 1 := by omega
  have hne : ((K : Int) == (K : Int) + 1) = false := by simp; omega
  have hK1 : ((K + 1 : Nat) : Int) = (K : Int) + 1 := by omega
  have HR2 := hide HRUN
  clear HRUN
  go_enter Try.func49, Try.ntmps49
  go_wp2_with fail
  go_region_law (first | (refine step_append_row rfl (.tmp 22) (.tmp 25) 34 34 rfl _ _ rfl rfl _ _ (HR2.out _ _) ?_))
  all_goals go_wp2
  all_goals go_ret
  all_goals exact ⟨rfl, HFIN.out⟩

set_option maxRecDepth 100000 in
set_option maxHeartbeats 1000000 in
theorem delete_any {w : World} {r cap K i : Nat} {L : List Gm} {cu : List Value} (hrow : w.heap[r]? = some (.cells cu.toArray 38 (0, 0))) (hl : cu.length = cap * 3) (hM : L.length = K + 1) (hMc : K + 1 ≤ cap) (ht : cu.take ((K + 1) * 3) = cells L) (hi : i ≤ K) (hM4 : (K : Int) < 4096) (hd : ∀ g ∈ L, ∃ ad n cap, g.d = .slice ad n cap) :
    Calls Try.prog 49 #[.slice (some ⟨r, 0, none⟩) (K + 1) cap, .int .i64 (i : Int), .int .i64 ((i : Int) + 1)] w fun e w' => e = .returned (.slice (some ⟨r, 0, none⟩) K cap) ∧ ∃ cu' : List Value, w'.heap[r]? = some (.cells cu'.toArray 38 (0, 0)) ∧ cu'.length = cap * 3 ∧ cu'.take (K * 3) = cells (cut L i) ∧ Kp (fun k => k = r) w w' := by
  have mixed : Try.prog.follows .mixedOrders = true := by kernel_rfl
  have hi0 : (0 : Int) ≤ (i : Int) := by omega
  have hi2 : (0 : Int) ≤ (i : Int) + 1 := by omega
  have hiK : (i : Int) ≤ (K : Int) := by omega
  have hne : ((i : Int) == (i : Int) + 1) = false := by simp; omega
  obtain ⟨X, hX⟩ : ∃ X, cu.take (i * 3) ++ cells (L.drop (i + 1)) ++ cu.drop (i * 3 + (cells (L.drop (i + 1))).length) = X := ⟨_, rfl⟩
  have hlen : (cells (L.drop (i + 1))).length = (K - i) * 3 := by rw [cells_length, List.length_drop, hM]; omega
  have hXl : X.length = cap * 3 := by
    rw [← hX]
    simp only [List.length_append, List.length_take, List.length_drop, hlen]
    omega
  have hXt : X.take (K * 3) = cells (cut L i) := by
    rw [← hX]
    have e1 : cu.take (i * 3) = cells (L.take i) := by
      rw [← cells_take, ← ht, List.take_take, Nat.min_eq_left (by omega)]
    have e2 : (cu.take (i * 3) ++ cells (L.drop (i + 1))).length = K * 3 := by
      simp only [List.length_append, List.length_take, hlen]
      omega
    rw [← e2, List.take_left, e1, cut, cells_append]
  have HRUN : Hid (∀ (a : Addr) (c : Nat), (a = ⟨r, (i + 1) * 3, none⟩ ∨ K = i) → (Builtin.append_ #[34, 34] 34 #[.slice (some ⟨r, 0, none⟩) i cap, .slice (some a) (K - i) c]).run Try.prog w.drew = .ok (.slice (some ⟨r, 0, none⟩) K cap) (w.drew.setRow r X.toArray)) := by
    intro a c ha
    obtain ⟨i0, hii, hz0, hz1, hz2⟩ := info_parts info38
    have := run_append_room (P := Try.prog) w.drew 34 34 38 i0 Try.underlying34 hii r i cap cu.toArray hrow a (K - i) c (cells (L.drop (i + 1))) (by rw [hz1, hlen]) (by
      intro j u hj
      have hj2 : j < (K - i) * 3 := by
        have := (List.getElem?_eq_some_iff.1 hj).1
        omega
      rcases ha with rfl | e
      · rw [Addr.add_lit]
        rw [← cells_drop, List.getElem?_drop, ← ht, List.getElem?_take_of_lt (by omega)] at hj
        show w.cell? _ = _
        simpa [World.cell?, hrow] using hj
      · omega) (cells_one (fun g hg => hd g (List.mem_of_mem_drop hg))) (by omega) (by rw [hz1, hlen]; simp; omega)
    rw [hz1, show i + (K - i) = K by omega] at this
    rw [← hX]
    exact this
  have hrow2 : (w.drew.setRow r X.toArray).heap[r]? = some (.cells X.toArray 38 (0, 0)) := setRow_heap w.drew r _ _ 38 _ hrow
  have hcl : ∃ cu' : List Value, (∀ cp ty, (Builtin.clear_ #[34] ty #[.slice (some ⟨r, K * 3, none⟩) 1 cp]).run Try.prog (w.drew.setRow r X.toArray) = .ok (.tuple #[]) ((w.drew.setRow r X.toArray).setRow r cu'.toArray)) ∧ cu'.length = cap * 3 ∧ cu'.take (K * 3) = X.take (K * 3) := by
    obtain ⟨cu', h1, h2, h3⟩ := clear38 (W := w.drew.setRow r X.toArray) (r := r) (cap := cap) (j := K) (n := 1) (cp := 0) hrow2 hXl (by omega) (by omega) 0
    exact ⟨cu', fun cp ty => h1, h2, h3⟩
  obtain ⟨cu', hcl, hl', ht'⟩ := hcl
  have HFIN : Hid (∃ cu'' : List Value, ((w.drew.setRow r X.toArray).setRow r cu'.toArray).heap[r]? = some (.cells cu''.toArray 38 (0, 0)) ∧ cu''.length = cap * 3 ∧ cu''.take (K * 3) = cells (cut L i) ∧ Kp (fun k => k = r) w ((w.drew.setRow r X.toArray).setRow r cu'.toArray)) :=
    ⟨cu', setRow_heap _ r _ _ 38 _ hrow2, hl', ht'.trans hXt, ((Kp.refl _ w).drew.trans (Kp.setRow _ r _) (fun _ _ e => e)).trans (Kp.setRow _ r _) (fun _ _ e => e)⟩
  have hK1 : ((K + 1 : Nat) : Int) = (K : Int) + 1 := by omega
  clear hX hXt hXl hlen hrow hl ht hrow2 hl' ht' hd hM
  generalize (w.drew.setRow r X.toArray).setRow r cu'.toArray = W2 at *
  generalize w.drew.setRow r X.toArray = W1 at *
  have hadr : i + 1 < cap ∨ i + 1 = cap := by omega
  rcases hadr with hadr | hadr
  · exact del_mid hi hMc hadr hM4 HRUN hcl HFIN
  · obtain rfl : K = i := by omega
    subst hadr
    exact del_end hM4 (fun a c => by have := HRUN.out a c (.inr rfl); rwa [Nat.sub_self] at this) hcl HFIN
end Go.Proofs.Ythajboipnjjgfaa.Ly
