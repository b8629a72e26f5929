import Derived.Test.YtckjededijgjgaaDoorTbK
import Derived.ProofKit
import Derived.OpenShut
import Derived.SizedLaws
import Derived.Carry
import Derived.Deep.Slices
import Derived.Deep.Fields
namespace Go.Proofs.YtckjededijgjgaaDoor.Tb
open Go.ChangeShapes Go.WideShapes Go.ChangeAt Go.RowKit
open Go.Deep
set_option linter.unusedVariables false

def tot (vs : List ByteArray) : Nat := (vs.map fun v => v.size + 1).sum
theorem tot_mem {vs : List ByteArray} {v : ByteArray} (h : v ∈ vs) : v.size + 1 ≤ tot vs := by
  induction vs with
  | nil => simp at h
  | cons u vs ih =>
    simp only [tot, List.map_cons, List.sum_cons]
    rcases List.mem_cons.1 h with rfl | h
    · omega
    · have := ih h
      unfold tot at this
      omega
theorem tot_len (vs : List ByteArray) : vs.length ≤ tot vs := by
  induction vs with
  | nil => simp
  | cons u vs ih => simp only [tot, List.map_cons, List.sum_cons, List.length_cons] at ih ⊢; omega
theorem cellsOf9 : Tryd.prog.cellsOf 9 = 1 := by kernel_rfl
theorem cellsOf34 : Tryd.prog.cellsOf 34 = 1 := by kernel_rfl
section
variable {H : Type} {enc : TypeId × Value → H} {W : World}
theorem bulk_tot (D : Nat → DataW H) (f : Nat → ByteArray) : ∀ (l : List Nat), (∀ i ∈ l, Rows.uptoBulk (D i) = (f i).size + 1) → Rows.uptoBulkAll (l.map D) = tot (l.map f)
  | [], _ => by simp [Rows.uptoBulkAll, tot]
  | i :: l, h => by
    have := bulk_tot D f l (fun j hj => h j (by simp [hj]))
    rw [List.map_cons, List.map_cons, Rows.uptoBulkAll, this, h i (by simp)]
    simp [tot]

theorem bulk_one (d : DataW H) : 1 ≤ Rows.uptoBulk d := by
  cases d with
  | lit l => cases l <;> simp [Rows.uptoBulk]
  | _ => simp [Rows.uptoBulk]
theorem bulk_len : ∀ (l : List (DataW H)), l.length ≤ Rows.uptoBulkAll l
  | [] => by simp
  | d :: l => by
    have := bulk_len l
    have := bulk_one d
    simp only [Rows.uptoBulkAll, List.length_cons]; omega
theorem bulk_mem : ∀ {l : List (DataW H)} {d : DataW H}, d ∈ l → Rows.uptoBulk d ≤ Rows.uptoBulkAll l
  | x :: l, d, h => by
    simp only [Rows.uptoBulkAll]
    rcases List.mem_cons.1 h with rfl | h
    · omega
    · have := bulk_mem h; omega

/-- texts that lie in a cell -/
theorem open_texts1 {v0 : Value} {x : DataW H × List MemPlace} {fuel : Nat} (hf' : DataW.trod enc Tryd.prog W 0 (fun _ => true) true fuel 34 [v0] = some x) :
    ∃ (vs : List ByteArray) (ad : Option Addr) (cap : Nat), v0 = .slice ad vs.length cap ∧ Sv W ad vs ∧ tot vs ≤ Rows.uptoBulk x.1 := by
  rcases open_slice1 Tryd.underlying34 cellsOf9 hf' with ⟨hcs, hx⟩ | ⟨a, len, cap, m, n, V, D, Pl, hcs, _, hl, hm, hmm, hx, hel⟩
  · simp only [List.cons.injEq, and_true] at hcs
    rw [hcs]
    exact ⟨[], _, _, rfl, fun k hk => by simp at hk, by simp [tot]⟩
  · simp only [List.cons.injEq, and_true] at hcs
    rw [hcs, hx]
    have hml : m = cap := by rw [hmm]; simp
    have each : ∀ i, i < len → ∃ s : ByteArray, W.cell? (a.add i) = some (.string s) ∧ Rows.uptoBulk (D i) = s.size + 1 := by
      intro i hi
      obtain ⟨hc, ht⟩ := hel i (by omega)
      obtain ⟨t, e0, h0, _⟩ := DataW.trod_string Tryd.underlying9 ht
      have e : V i = .string t := by simpa using e0
      rw [e] at hc
      simp only [Prod.mk.injEq] at h0
      refine ⟨t, hc, ?_⟩
      rw [h0.1]
      simp only [Rows.uptoBulk, Array.length_toList, ByteArray.size_data]
    haveI : Inhabited ByteArray := ⟨⟨#[]⟩⟩
    obtain ⟨f, hf2⟩ := choose_lt (α := ByteArray) each
    have htot : tot ((List.range len).map f) ≤ Rows.uptoBulk (DataW.slice ((List.range len).map D) ((List.range (m - len)).map fun j => D (len + j))) := by
      simp only [Rows.uptoBulk]
      rw [bulk_tot D f (List.range len) (fun i hi => (hf2 i (by simpa using hi)).2)]
      omega
    by_cases h0 : len = 0
    · subst h0
      exact ⟨[], _, _, rfl, fun k hk => by simp at hk, by simp [tot]⟩
    · have hsp : a.spot = none := by
        have h1 := (hf2 0 (by omega)).1
        have e : a.add 0 = a := by simp [Addr.add]
        rw [e] at h1
        unfold World.cell? at h1
        split at h1
        · split at h1
          · cases h1
          · rename_i h; simpa using h
        · cases h1
      obtain ⟨ab, ao, sp⟩ := a
      simp only at hsp
      subst hsp
      refine ⟨(List.range len).map f, _, _, by rw [List.length_map, List.length_range], fun i hi => ?_, htot⟩
      have hi' : i < len := by simpa using hi
      have hc := (hf2 i hi').1
      rw [Pc.addP] at hc
      have e : ((List.range len).map f)[i] = f i := by simp
      rw [e]
      exact ⟨ab, ao, rfl, World.block_lt_of_cell? W _ hc, hc⟩

/-- rows that came in -/
theorem open_rows {v0 : Value} {d0 : DataW H} {p0 : List MemPlace} (h : DataW.Trod enc Tryd.prog W 0 (fun _ => true) true 67 v0 d0 p0) (hone : ∃ a len cap, v0 = .slice a len cap) :
    ∃ (rows : List (List ByteArray)) (ad : Option Addr) (cap : Nat), v0 = .slice ad rows.length cap ∧ Rs W ad rows ∧ rows.length ≤ Rows.uptoBulk d0 ∧ ∀ r ∈ rows, tot r ≤ Rows.uptoBulk d0 := by
  obtain ⟨fuel, hf⟩ := h
  obtain ⟨a0, len0, cap0, rfl⟩ := hone
  have hf' : DataW.trod enc Tryd.prog W 0 (fun _ => true) true fuel 67 [.slice a0 len0 cap0] = some (d0, p0) := by simpa [Value.cells] using hf
  rcases open_slice1 Tryd.underlying67 cellsOf34 hf' with ⟨hcs, hx⟩ | ⟨a, len, cap, m, n, V, D, Pl, hcs, _, hl, hm, hmm, hx, hel⟩
  · simp only [List.cons.injEq, and_true] at hcs
    rw [hcs]
    exact ⟨[], _, _, rfl, fun k hk => by simp at hk, by simp, fun r hr => by simp at hr⟩
  · simp only [List.cons.injEq, and_true] at hcs
    rw [hcs]
    simp only [Prod.mk.injEq] at hx
    have hml : m = cap := by rw [hmm]; simp
    have each : ∀ i, i < len → ∃ r : List ByteArray, (∃ adr cp, W.cell? (a.add i) = some (.slice adr r.length cp) ∧ Sv W adr r) ∧ tot r ≤ Rows.uptoBulk (D i) := by
      intro i hi
      obtain ⟨hc, ht⟩ := hel i (by omega)
      obtain ⟨r, adr, cp, e, hS, hT⟩ := open_texts1 ht
      rw [e] at hc
      exact ⟨r, ⟨adr, cp, hc, hS⟩, hT⟩
    obtain ⟨f, hf2⟩ := choose_lt (α := List ByteArray) each
    have hlen : len ≤ Rows.uptoBulk d0 := by
      rw [hx.1]
      simp only [Rows.uptoBulk]
      have := bulk_len ((List.range len).map D)
      simp only [List.length_map, List.length_range] at this
      omega
    have htot : ∀ i, i < len → tot (f i) ≤ Rows.uptoBulk d0 := by
      intro i hi
      have h1 := (hf2 i hi).2
      have h2 := bulk_mem (l := (List.range len).map D) (d := D i) (List.mem_map.2 ⟨i, by simpa using hi, rfl⟩)
      rw [hx.1]
      simp only [Rows.uptoBulk]
      omega
    by_cases h0 : len = 0
    · subst h0
      exact ⟨[], _, _, rfl, fun k hk => by simp at hk, by simp, fun r hr => by simp at hr⟩
    · have hsp : a.spot = none := by
        obtain ⟨adr, cp, h1, _⟩ := (hf2 0 (by omega)).1
        have e : a.add 0 = a := by simp [Addr.add]
        rw [e] at h1
        unfold World.cell? at h1
        split at h1
        · split at h1
          · cases h1
          · rename_i h; simpa using h
        · cases h1
      obtain ⟨ab, ao, sp⟩ := a
      simp only at hsp
      subst hsp
      refine ⟨(List.range len).map f, _, _, by rw [List.length_map, List.length_range], fun i hi => ?_, by rw [List.length_map, List.length_range]; exact hlen, fun r hr => ?_⟩
      · have hi' : i < len := by simpa using hi
        obtain ⟨adr, cp, hc, hS⟩ := (hf2 i hi').1
        rw [Pc.addP] at hc
        have e : ((List.range len).map f)[i] = f i := by simp
        rw [e]
        exact ⟨ab, ao, adr, cp, rfl, World.block_lt_of_cell? W _ hc, hc, hS⟩
      · obtain ⟨i, hi, rfl⟩ := List.mem_map.1 hr
        exact htot i (by simpa using hi)
end
end Go.Proofs.YtckjededijgjgaaDoor.Tb
