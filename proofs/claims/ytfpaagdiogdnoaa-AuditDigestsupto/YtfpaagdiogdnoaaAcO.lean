import Derived.Test.YtfpaagdiogdnoaaAcH
import Derived.ProofKit
import Derived.OpenShut
import Derived.Carry
import Derived.Deep.Slices
import Derived.Deep.Fields
import Derived.JoinedCond
namespace Go.Proofs.Ytfpaagdiogdnoaa.Cd
open Go.ChangeShapes Go.WideShapes Go.ChangeAt Go.RowKit
open Go.Deep
set_option linter.unusedVariables false
theorem ownK : ownKnob Try.prog.godebug = none := by kernel_rfl
theorem laidOut : laidOutB Try.prog = true := by kernel_rfl
theorem cellsOf5 : Try.prog.cellsOf 5 = 1 := by kernel_rfl
theorem cellsOf24 : Try.prog.cellsOf 24 = 1 := by kernel_rfl
theorem cellsOf28 : Try.prog.cellsOf 28 = 1 := by kernel_rfl
theorem cellsOf31 : Try.prog.cellsOf 31 = 2 := by kernel_rfl
section
variable {H : Type} {enc : TypeId × Value → H} {W : World}
theorem one_le (d : DataW H) : 1 ≤ Rows.uptoBulk d := by
  cases d with
  | lit l => cases l <;> simp [Rows.uptoBulk]
  | nil => simp [Rows.uptoBulk]
  | ptr d => simp [Rows.uptoBulk]
  | slice elems spare => simp [Rows.uptoBulk]
  | agg parts => simp [Rows.uptoBulk]
  | iface t d => simp [Rows.uptoBulk]
  | map entries => simp [Rows.uptoBulk]
  | held h => simp [Rows.uptoBulk]
theorem part_le {d : DataW H} {l : List (DataW H)} (h : d ∈ l) : Rows.uptoBulk d ≤ Rows.uptoBulkAll l := by
  induction l with
  | nil => cases h
  | cons x r ih =>
    simp only [Rows.uptoBulkAll]
    cases List.mem_cons.1 h with
    | inl e => subst e; omega
    | inr e => have := ih e; omega
theorem length_le (l : List (DataW H)) : l.length ≤ Rows.uptoBulkAll l := by
  induction l with
  | nil => simp [Rows.uptoBulkAll]
  | cons x r ih => have := one_le x; simp only [Rows.uptoBulkAll, List.length_cons]; omega
/-- a slice of bytes that came in -/
theorem open_bytes {fuel : Nat} {cs0 : List Value} {x : DataW H × List MemPlace} (h : DataW.trod enc Try.prog W 0 (fun _ => true) true fuel 28 cs0 = some x) (hw : Rows.uptoBulk x.1 ≤ 1048576) :
    ∃ (a : Option Addr) (c : Nat) (bs : List Int), cs0 = [.slice a bs.length c] ∧ Rd W (.slice a bs.length c) bs ∧ Byt bs ∧ bs.length ≤ 1048576 := by
  rcases open_ints Try.underlying28 Try.underlying5 cellsOf5 h with ⟨rfl, rfl⟩ | ⟨a, len, cap, zs, rfl, _, hl, hm, hz, rfl, hcell, hwz⟩
  · exact ⟨none, 0, [], rfl, .inl ⟨rfl, rfl⟩, ⟨(fun y hy => by cases hy), Nat.zero_le _⟩⟩
  · have hzl : (zs.take len).length = len := by
      rw [List.length_take, hz]
      simp
      omega
    refine ⟨some a, cap, zs.take len, by rw [hzl], .inr ⟨a, cap, rfl, fun j u hj => ?_⟩, ?_, ?_⟩
    · have hj2 : j < len := by
        have := (List.getElem?_eq_some_iff.1 hj).1
        rw [cs_length, hzl] at this
        exact this
      have hj3 : j < zs.length := by rw [hz]; simp; omega
      have := hcell j hj3
      rw [this]
      rw [← hj]
      simp [cs, hj2, hj3]
    · intro z hz'
      have := hwz z (List.mem_of_mem_take hz')
      simpa [Lit.wf, IntKind.min, IntKind.max, IntKind.signed, IntKind.bits] using this
    · simp only [Rows.uptoBulk] at hw
      have h1 := length_le (lits IntKind.u8 (List.take len zs) : List (DataW H))
      have e1 : (lits IntKind.u8 (List.take len zs) : List (DataW H)).length = (List.take len zs).length := by simp [lits]
      omega
theorem get2 {α : Type} : ∀ {l : List α}, l.length = 2 → ∃ a0 a1, l = [a0, a1]
  | [a0, a1], _ => ⟨a0, a1, rfl⟩
set_option maxRecDepth 100000 in
set_option maxHeartbeats 1000000 in
theorem open_pair {fuel : Nat} {cs0 : List Value} {x : DataW H × List MemPlace} (h : DataW.trod enc Try.prog W 0 (fun _ => true) true fuel 31 cs0 = some x) (hw : Rows.uptoBulk x.1 ≤ 1048576) :
    ∃ p : Pq, cs0 = p.cells ∧ p.Ok W := by
  obtain ⟨xs, n, rfl, rfl, hl, hxl, hf⟩ := DataW.trod_struct Try.underlying31 h
  rw [cellsOf31] at hl
  obtain ⟨y0, y1, rfl⟩ := get2 (show xs.length = 2 from hxl)
  obtain ⟨v0, v1, rfl⟩ := get2 hl
  have f0 : DataW.trod enc Try.prog W 0 (fun _ => true) true n 24 [v0] = some y0 := by
    have g : DataW.trod enc Try.prog W 0 (fun _ => true) true n 24 (([v0, v1].drop 0).take (Try.prog.cellsOf 24)) = [y0, y1][0]? := hf 0 _ rfl
    rw [cellsOf24] at g; exact g
  have f1 : DataW.trod enc Try.prog W 0 (fun _ => true) true n 28 [v1] = some y1 := by
    have g : DataW.trod enc Try.prog W 0 (fun _ => true) true n 28 (([v0, v1].drop 1).take (Try.prog.cellsOf 28)) = [y0, y1][1]? := hf 1 _ rfl
    rw [cellsOf28] at g; exact g
  clear hf
  have hw1 : Rows.uptoBulk y1.1 ≤ 1048576 := by
    have h1 := part_le (d := y1.1) (l := [y0.1, y1.1]) (by simp)
    have h2 : Rows.uptoBulkAll [y0.1, y1.1] + 1 ≤ 1048576 := by simpa only [Rows.uptoBulk, List.map] using hw
    omega
  obtain ⟨k0, e0, _, b0⟩ := DataW.trod_int Try.underlying24 f0
  obtain rfl : v0 = .int .u64 k0 := by simpa using e0
  obtain ⟨a1, c1, bs1, e1, h1, h2, h3⟩ := open_bytes f1 hw1
  obtain rfl : v1 = .slice a1 bs1.length c1 := by simpa using e1
  have w1 : 0 ≤ k0 ∧ k0 < 18446744073709551616 := by
    simp [Lit.wf, IntKind.min, IntKind.max, IntKind.signed, IntKind.bits] at b0
    omega
  exact ⟨⟨k0, a1, c1, bs1⟩, rfl, h1, w1.1, w1.2, h2, h3⟩
theorem spot_noneC {w : World} {a : Addr} {u : Value} (h : w.cell? a = some u) : a.spot = none := by
  unfold World.cell? at h
  split at h
  · split at h
    · cases h
    · rename_i _ hs; simpa using hs
  · cases h
/-- pairs that came in -/
theorem open_pairs {v0 : Value} {d0 : DataW H} {p0 : List MemPlace} (h : DataW.Trod enc Try.prog W 0 (fun _ => true) true 22 v0 d0 p0) (hone : ∃ a len cap, v0 = .slice a len cap) (hw : Rows.uptoBulk d0 ≤ 1048576) :
    ∃ S, Prs W v0 S ∧ S.length ≤ 1048576 := by
  obtain ⟨fuel, hf⟩ := h
  obtain ⟨a0, len0, cap0, rfl⟩ := hone
  have hf' : DataW.trod enc Try.prog W 0 (fun _ => true) true fuel 22 [.slice a0 len0 cap0] = some (d0, p0) := by simpa [Value.cells] using hf
  rcases open_slice Try.underlying22 hf' with ⟨hcs, hx⟩ | ⟨a, len, cap, m, n, D, Pl, hcs, _, hl, hm, hmm, hx, hel⟩
  · simp only [List.cons.injEq, and_true] at hcs
    rw [hcs]
    exact ⟨[], ⟨none, 0, rfl, fun i p hp => by simp at hp⟩, by simp⟩
  · simp only [List.cons.injEq, and_true] at hcs
    rw [hcs]
    simp only [Prod.mk.injEq] at hx
    have hml : m = cap := by rw [hmm]; simp
    rw [hx.1] at hw
    simp only [Rows.uptoBulk] at hw
    have hlb : len ≤ 1048576 := by
      have := length_le ((List.range len).map D)
      simp only [List.length_map, List.length_range] at this
      omega
    have each : ∀ i, i < len → ∃ s : Pq, (∀ j, j < 2 → W.cell? (a.add (i * 2 + j)) = s.cells[j]?) ∧ s.Ok W := by
      intro i hi
      obtain ⟨cs', hc, ht⟩ := hel i (by omega)
      rw [cellsOf31] at hc
      obtain ⟨s, rfl, ok⟩ := open_pair ht (by
        have := part_le (d := D i) (l := (List.range len).map D) (List.mem_map.2 ⟨i, List.mem_range.2 hi, rfl⟩)
        show Rows.uptoBulk (D i) ≤ _
        omega)
      refine ⟨s, fun j hj => ?_, ok⟩
      obtain ⟨_, _, hcell⟩ := World.cells?_some hc
      have := hcell j hj
      rw [Deep.add_add] at this
      exact this
    haveI : Inhabited Pq := ⟨⟨0, none, 0, []⟩⟩
    obtain ⟨f, hf2⟩ := choose_lt (α := Pq) each
    by_cases h0 : len = 0
    · subst h0
      exact ⟨[], ⟨_, _, rfl, fun i p hp => by simp at hp⟩, by simp⟩
    · have hsp : a.spot = none := by
        have h1 := (hf2 0 (by omega)).1 0 (by omega)
        have e : a.add (0 * 2 + 0) = a := by simp [Addr.add]
        rw [e] at h1
        exact spot_noneC (u := .int .u64 (f 0).k) h1
      obtain ⟨ab, ao, sp⟩ := a
      simp only at hsp
      subst hsp
      refine ⟨(List.range len).map f, ⟨some ⟨ab, ao, none⟩, cap, by simp, fun i s hs => ⟨ab, ao, rfl, ?_⟩⟩, by simpa using hlb⟩
      have hi : i < len := by
        have := (List.getElem?_eq_some_iff.1 hs).1
        simpa using this
      have hs' : f i = s := by simpa [hi] using hs
      subst hs'
      obtain ⟨hc, ok⟩ := hf2 i hi
      have c0 := hc 0 (by omega)
      have c1 := hc 1 (by omega)
      rw [Addr.add_lit] at c0 c1
      exact ⟨by rw [Nat.add_zero] at c0; exact c0, by rw [← Nat.add_assoc] at c1; exact c1, ok⟩
end
end Go.Proofs.Ytfpaagdiogdnoaa.Cd
