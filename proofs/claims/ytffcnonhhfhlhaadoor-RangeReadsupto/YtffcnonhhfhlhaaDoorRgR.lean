import Derived.Test.YtffcnonhhfhlhaaDoorRgQ
import Derived.ProofKit
import Derived.OpenShut
import Derived.SizedLaws
import Derived.Carry
import Derived.Deep.Slices
import Derived.Deep.Fields
namespace Go.Proofs.YtffcnonhhfhlhaaDoor.Rg
open Go.ChangeShapes Go.WideShapes Go.ChangeAt Go.RowKit
open Go.Deep
set_option linter.unusedVariables false

theorem ownK : ownKnob Tryd.prog.godebug = none := by kernel_rfl
theorem cellsOf3 : Tryd.prog.cellsOf 3 = 1 := by kernel_rfl
theorem cellsOf22 : Tryd.prog.cellsOf 24 = 1 := by kernel_rfl
theorem cellsOf29 : Tryd.prog.cellsOf 23 = 1 := by kernel_rfl
theorem cellsOf31 : Tryd.prog.cellsOf 36 = 4 := by kernel_rfl
theorem cellsOf40 : Tryd.prog.cellsOf 26 = 3 := by kernel_rfl
theorem bytesOf31 : Tryd.prog.bytesOf 36 = 32 := by kernel_rfl
theorem bytesOf40 : Tryd.prog.bytesOf 26 = 24 := by kernel_rfl

/-- a step -/
structure Sp where
  kind : Int
  lo : Int
  hi : Int
  h : Int
structure SpAt (W : World) (b o : Nat) (s : Sp) : Prop where
  c0 : W.cell? ⟨b, o, none⟩ = some (.int .i64 s.kind)
  c1 : W.cell? ⟨b, o + 1, none⟩ = some (.int .u64 s.lo)
  c2 : W.cell? ⟨b, o + 2, none⟩ = some (.int .u64 s.hi)
  c3 : W.cell? ⟨b, o + 3, none⟩ = some (.int .u8 s.h)
  fit : 0 ≤ s.lo ∧ s.lo < 18446744073709551616 ∧ 0 ≤ s.hi ∧ s.hi < 18446744073709551616 ∧ 0 ≤ s.h ∧ s.h < 256
/-- a script that came in -/
def Scr (W : World) (v : Value) (S : List Sp) : Prop :=
  ((∃ ad cap, v = .slice ad 0 cap) ∧ S = []) ∨ ∃ b off cap, v = .slice (some ⟨b, off, none⟩) S.length cap ∧ ∀ i s, S[i]? = some s → SpAt W b (off + i * 4) s
structure SgAt (W : World) (b o : Nat) (s : Sg) : Prop where
  c0 : W.cell? ⟨b, o, none⟩ = some (.int .u64 s.lo)
  c1 : W.cell? ⟨b, o + 1, none⟩ = some (.int .u64 s.hi)
  c2 : W.cell? ⟨b, o + 2, none⟩ = some (.int .u8 s.h)
  fit : 0 ≤ s.lo ∧ s.lo < 18446744073709551616 ∧ 0 ≤ s.hi ∧ s.hi < 18446744073709551616 ∧ 0 ≤ s.h ∧ s.h < 256
/-- segments that came in -/
def Sgs (W : World) (v : Value) (S : List Sg) : Prop :=
  ((∃ ad cap, v = .slice ad 0 cap) ∧ S = []) ∨ ∃ b off cap, v = .slice (some ⟨b, off, none⟩) S.length cap ∧ ∀ i s, S[i]? = some s → SgAt W b (off + i * 3) s
theorem cell_nu {w w' : World} {a : Addr} {u : Value} (h : w.cell? a = some u) (k : Kp Nu w w') : w'.cell? a = some u :=
  (World.cell?_of_block (k.block _ (World.block_lt_of_cell? w _ h) (fun h => h))).trans h
theorem SpAt.nu {w w' : World} {s : Sp} {b o : Nat} (h : SpAt w b o s) (k : Kp Nu w w') : SpAt w' b o s := ⟨cell_nu h.c0 k, cell_nu h.c1 k, cell_nu h.c2 k, cell_nu h.c3 k, h.fit⟩
theorem Scr.slice {w : World} {v : Value} {S : List Sp} (h : Scr w v S) : ∃ ad cap, v = .slice ad S.length cap := by
  rcases h with ⟨⟨ad, cap, rfl⟩, rfl⟩ | ⟨b, off, cap, rfl, _⟩
  · exact ⟨ad, cap, rfl⟩
  · exact ⟨_, cap, rfl⟩
theorem Sgs.slice {w : World} {v : Value} {S : List Sg} (h : Sgs w v S) : ∃ ad cap, v = .slice ad S.length cap := by
  rcases h with ⟨⟨ad, cap, rfl⟩, rfl⟩ | ⟨b, off, cap, rfl, _⟩
  · exact ⟨ad, cap, rfl⟩
  · exact ⟨_, cap, rfl⟩
theorem spot_none {w : World} {a : Addr} {u : Value} (h : w.cell? a = some u) : a.spot = none := by
  unfold World.cell? at h
  split at h
  · split at h
    · cases h
    · rename_i _ hs; simpa using hs
  · cases h

section
variable {H : Type} {enc : TypeId × Value → H} {W : World}
theorem sized_at {ts : List TypeId} {ds : List (DataW H)} (h : (DataW.weightsEach Tryd.prog ts ds).all (· ≤ reachBytes) = true) (j : Nat) {t : TypeId} {d : DataW H} (ht : ts[j]? = some t) (hd : ds[j]? = some d) : ∀ n ∈ d.weights Tryd.prog t, n ≤ 140737488351232 := by
  intro n hn
  have := List.all_eq_true.1 h n (DataW.weights_mem_each ht hd n hn)
  exact of_decide_eq_true this
theorem get4 {α : Type} {l : List α} (h : l.length = 4) : ∃ a b c d, l = [a, b, c, d] := by
  match l, h with
  | [a, b, c, d], _ => exact ⟨a, b, c, d, rfl⟩

theorem open_step1 {fuel : Nat} {cs0 : List Value} {x : DataW H × List MemPlace} (h : DataW.trod enc Tryd.prog W 0 (fun _ => true) true fuel 36 cs0 = some x) :
    ∃ s : Sp, cs0 = [.int .i64 s.kind, .int .u64 s.lo, .int .u64 s.hi, .int .u8 s.h] ∧ 0 ≤ s.lo ∧ s.lo < 18446744073709551616 ∧ 0 ≤ s.hi ∧ s.hi < 18446744073709551616 ∧ 0 ≤ s.h ∧ s.h < 256 := by
  obtain ⟨xs, n, rfl, rfl, hl, hxl, hf⟩ := DataW.trod_struct Tryd.underlying36 h
  rw [cellsOf31] at hl
  obtain ⟨y0, y1, y2, y3, rfl⟩ := get4 (show xs.length = 4 from hxl)
  obtain ⟨v0, v1, v2, v3, rfl⟩ := get4 hl
  have f0 : DataW.trod enc Tryd.prog W 0 (fun _ => true) true n 3 [v0] = some y0 := by
    have g : DataW.trod enc Tryd.prog W 0 (fun _ => true) true n 3 (([v0, v1, v2, v3].drop 0).take (Tryd.prog.cellsOf 3)) = [y0, y1, y2, y3][0]? := hf 0 _ rfl
    rw [cellsOf3] at g; exact g
  have f1 : DataW.trod enc Tryd.prog W 0 (fun _ => true) true n 23 [v1] = some y1 := by
    have g : DataW.trod enc Tryd.prog W 0 (fun _ => true) true n 23 (([v0, v1, v2, v3].drop 1).take (Tryd.prog.cellsOf 23)) = [y0, y1, y2, y3][1]? := hf 1 _ rfl
    rw [cellsOf29] at g; exact g
  have f2 : DataW.trod enc Tryd.prog W 0 (fun _ => true) true n 23 [v2] = some y2 := by
    have g : DataW.trod enc Tryd.prog W 0 (fun _ => true) true n 23 (([v0, v1, v2, v3].drop 2).take (Tryd.prog.cellsOf 23)) = [y0, y1, y2, y3][2]? := hf 2 _ rfl
    rw [cellsOf29] at g; exact g
  have f3 : DataW.trod enc Tryd.prog W 0 (fun _ => true) true n 24 [v3] = some y3 := by
    have g : DataW.trod enc Tryd.prog W 0 (fun _ => true) true n 24 (([v0, v1, v2, v3].drop 3).take (Tryd.prog.cellsOf 24)) = [y0, y1, y2, y3][3]? := hf 3 _ rfl
    rw [cellsOf22] at g; exact g
  obtain ⟨k0, e0, _, b0⟩ := DataW.trod_int Tryd.underlying3 f0
  obtain rfl : v0 = .int .i64 k0 := by simpa using e0
  obtain ⟨k1, e1, _, b1⟩ := DataW.trod_int Tryd.underlying23 f1
  obtain rfl : v1 = .int .u64 k1 := by simpa using e1
  obtain ⟨k2, e2, _, b2⟩ := DataW.trod_int Tryd.underlying23 f2
  obtain rfl : v2 = .int .u64 k2 := by simpa using e2
  obtain ⟨k3, e3, _, b3⟩ := DataW.trod_int Tryd.underlying24 f3
  obtain rfl : v3 = .int .u8 k3 := by simpa using e3
  simp [Lit.wf, IntKind.min, IntKind.max, IntKind.signed, IntKind.bits] at b1
  simp [Lit.wf, IntKind.min, IntKind.max, IntKind.signed, IntKind.bits] at b2
  simp [Lit.wf, IntKind.min, IntKind.max, IntKind.signed, IntKind.bits] at b3
  exact ⟨⟨k0, k1, k2, k3⟩, rfl, by dsimp only; omega, by dsimp only; omega, by dsimp only; omega, by dsimp only; omega, by dsimp only; omega, by dsimp only; omega⟩

theorem open_step {v0 : Value} {d0 : DataW H} {p0 : List MemPlace} (h : DataW.Trod enc Tryd.prog W 0 (fun _ => true) true 83 v0 d0 p0) (hone : ∃ a len cap, v0 = .slice a len cap) (hw : ∀ n ∈ d0.weights Tryd.prog 83, n ≤ 140737488351232) : ∃ S, Scr W v0 S ∧ (S.length : Int) ≤ 4398046510976 := by
  obtain ⟨fuel, hf⟩ := h
  obtain ⟨a0, len0, cap0, rfl⟩ := hone
  have hf' : DataW.trod enc Tryd.prog W 0 (fun _ => true) true fuel 83 [.slice a0 len0 cap0] = some (d0, p0) := by simpa [Value.cells] using hf
  rcases open_slice Tryd.underlying83 hf' with ⟨hcs, hx⟩ | ⟨a, len, cap, m, n, D, Pl, hcs, _, hl, hm, hmm, hx, hel⟩
  · simp only [List.cons.injEq, and_true] at hcs
    rw [hcs]
    exact ⟨[], .inl ⟨⟨_, _, rfl⟩, rfl⟩, by simp⟩
  · simp only [List.cons.injEq, and_true] at hcs
    rw [hcs]
    simp only [Prod.mk.injEq] at hx
    have hml : m = cap := by rw [hmm]; simp
    have each : ∀ i, i < len → ∃ s : Sp, (∀ j, j < 4 → W.cell? (a.add (i * 4 + j)) = [Value.int .i64 s.kind, .int .u64 s.lo, .int .u64 s.hi, .int .u8 s.h][j]?) ∧ (0 ≤ s.lo ∧ s.lo < 18446744073709551616 ∧ 0 ≤ s.hi ∧ s.hi < 18446744073709551616 ∧ 0 ≤ s.h ∧ s.h < 256) := by
      intro i hi
      obtain ⟨cs', hc, ht⟩ := hel i (by omega)
      rw [cellsOf31] at hc
      obtain ⟨s, rfl, hfit⟩ := open_step1 ht
      refine ⟨s, fun j hj => ?_, hfit⟩
      obtain ⟨_, _, hcell⟩ := World.cells?_some hc
      have := hcell j hj
      rw [Deep.add_add] at this
      exact this
    haveI : Inhabited Sp := ⟨⟨0, 0, 0, 0⟩⟩
    obtain ⟨f, hf2⟩ := choose_lt (α := Sp) each
    by_cases h0 : len = 0
    · subst h0
      exact ⟨[], .inl ⟨⟨_, _, rfl⟩, rfl⟩, by simp⟩
    · have hsp : a.spot = none := by
        have h1 := (hf2 0 (by omega)).1 0 (by omega)
        have e : a.add (0 * 4 + 0) = a := by simp [Addr.add]
        rw [e] at h1
        simp only [List.getElem?_cons_zero] at h1
        exact spot_none h1
      obtain ⟨ab, ao, sp⟩ := a
      simp only at hsp
      subst hsp
      have hlb : (len : Int) ≤ 4398046510976 := by
        have := hw ((((List.range len).map D).length + ((List.range (m - len)).map fun j => D (len + j)).length) * Tryd.prog.bytesOf 36) (by rw [hx.1]; simp [DataW.weights, Tryd.underlying83])
        rw [bytesOf31] at this
        simp only [List.length_map, List.length_range] at this
        omega
      refine ⟨(List.range len).map f, .inr ⟨ab, ao, cap, by simp, fun i s hs => ?_⟩, by simpa using hlb⟩
      have hi : i < len := by
        have := (List.getElem?_eq_some_iff.1 hs).1
        simpa using this
      have hs' : f i = s := by simpa [hi] using hs
      subst hs'
      obtain ⟨hc, hfit⟩ := hf2 i hi
      have c := fun j hj => hc j hj
      simp only [Addr.add_lit] at c
      refine ⟨by simpa using c 0 (by omega), ?_, ?_, ?_, hfit⟩
      · have := c 1 (by omega); rw [← Nat.add_assoc] at this; simpa using this
      · have := c 2 (by omega); rw [← Nat.add_assoc] at this; simpa using this
      · have := c 3 (by omega); rw [← Nat.add_assoc] at this; simpa using this

theorem get3 {α : Type} {l : List α} (h : l.length = 3) : ∃ a b c, l = [a, b, c] := by
  match l, h with
  | [a, b, c], _ => exact ⟨a, b, c, rfl⟩

theorem open_seg1 {fuel : Nat} {cs0 : List Value} {x : DataW H × List MemPlace} (h : DataW.trod enc Tryd.prog W 0 (fun _ => true) true fuel 26 cs0 = some x) :
    ∃ s : Sg, cs0 = [.int .u64 s.lo, .int .u64 s.hi, .int .u8 s.h] ∧ 0 ≤ s.lo ∧ s.lo < 18446744073709551616 ∧ 0 ≤ s.hi ∧ s.hi < 18446744073709551616 ∧ 0 ≤ s.h ∧ s.h < 256 := by
  obtain ⟨xs, n, rfl, rfl, hl, hxl, hf⟩ := DataW.trod_struct Tryd.underlying26 h
  rw [cellsOf40] at hl
  obtain ⟨y0, y1, y2, rfl⟩ := get3 (show xs.length = 3 from hxl)
  obtain ⟨v0, v1, v2, rfl⟩ := get3 hl
  have f0 : DataW.trod enc Tryd.prog W 0 (fun _ => true) true n 23 [v0] = some y0 := by
    have g : DataW.trod enc Tryd.prog W 0 (fun _ => true) true n 23 (([v0, v1, v2].drop 0).take (Tryd.prog.cellsOf 23)) = [y0, y1, y2][0]? := hf 0 _ rfl
    rw [cellsOf29] at g; exact g
  have f1 : DataW.trod enc Tryd.prog W 0 (fun _ => true) true n 23 [v1] = some y1 := by
    have g : DataW.trod enc Tryd.prog W 0 (fun _ => true) true n 23 (([v0, v1, v2].drop 1).take (Tryd.prog.cellsOf 23)) = [y0, y1, y2][1]? := hf 1 _ rfl
    rw [cellsOf29] at g; exact g
  have f2 : DataW.trod enc Tryd.prog W 0 (fun _ => true) true n 24 [v2] = some y2 := by
    have g : DataW.trod enc Tryd.prog W 0 (fun _ => true) true n 24 (([v0, v1, v2].drop 2).take (Tryd.prog.cellsOf 24)) = [y0, y1, y2][2]? := hf 2 _ rfl
    rw [cellsOf22] at g; exact g
  obtain ⟨k0, e0, _, b0⟩ := DataW.trod_int Tryd.underlying23 f0
  obtain rfl : v0 = .int .u64 k0 := by simpa using e0
  obtain ⟨k1, e1, _, b1⟩ := DataW.trod_int Tryd.underlying23 f1
  obtain rfl : v1 = .int .u64 k1 := by simpa using e1
  obtain ⟨k2, e2, _, b2⟩ := DataW.trod_int Tryd.underlying24 f2
  obtain rfl : v2 = .int .u8 k2 := by simpa using e2
  simp [Lit.wf, IntKind.min, IntKind.max, IntKind.signed, IntKind.bits] at b0
  simp [Lit.wf, IntKind.min, IntKind.max, IntKind.signed, IntKind.bits] at b1
  simp [Lit.wf, IntKind.min, IntKind.max, IntKind.signed, IntKind.bits] at b2
  exact ⟨⟨k0, k1, k2⟩, rfl, by dsimp only; omega, by dsimp only; omega, by dsimp only; omega, by dsimp only; omega, by dsimp only; omega, by dsimp only; omega⟩

theorem open_seg {v0 : Value} {d0 : DataW H} {p0 : List MemPlace} (h : DataW.Trod enc Tryd.prog W 0 (fun _ => true) true 22 v0 d0 p0) (hone : ∃ a len cap, v0 = .slice a len cap) (hw : ∀ n ∈ d0.weights Tryd.prog 22, n ≤ 140737488351232) : ∃ S, Sgs W v0 S ∧ (S.length : Int) ≤ 5864062014634 := by
  obtain ⟨fuel, hf⟩ := h
  obtain ⟨a0, len0, cap0, rfl⟩ := hone
  have hf' : DataW.trod enc Tryd.prog W 0 (fun _ => true) true fuel 22 [.slice a0 len0 cap0] = some (d0, p0) := by simpa [Value.cells] using hf
  rcases open_slice Tryd.underlying22 hf' with ⟨hcs, hx⟩ | ⟨a, len, cap, m, n, D, Pl, hcs, _, hl, hm, hmm, hx, hel⟩
  · simp only [List.cons.injEq, and_true] at hcs
    rw [hcs]
    exact ⟨[], .inl ⟨⟨_, _, rfl⟩, rfl⟩, by simp⟩
  · simp only [List.cons.injEq, and_true] at hcs
    rw [hcs]
    simp only [Prod.mk.injEq] at hx
    have hml : m = cap := by rw [hmm]; simp
    have each : ∀ i, i < len → ∃ s : Sg, (∀ j, j < 3 → W.cell? (a.add (i * 3 + j)) = [Value.int .u64 s.lo, .int .u64 s.hi, .int .u8 s.h][j]?) ∧ (0 ≤ s.lo ∧ s.lo < 18446744073709551616 ∧ 0 ≤ s.hi ∧ s.hi < 18446744073709551616 ∧ 0 ≤ s.h ∧ s.h < 256) := by
      intro i hi
      obtain ⟨cs', hc, ht⟩ := hel i (by omega)
      rw [cellsOf40] at hc
      obtain ⟨s, rfl, hfit⟩ := open_seg1 ht
      refine ⟨s, fun j hj => ?_, hfit⟩
      obtain ⟨_, _, hcell⟩ := World.cells?_some hc
      have := hcell j hj
      rw [Deep.add_add] at this
      exact this
    haveI : Inhabited Sg := ⟨⟨0, 0, 0⟩⟩
    obtain ⟨f, hf2⟩ := choose_lt (α := Sg) each
    by_cases h0 : len = 0
    · subst h0
      exact ⟨[], .inl ⟨⟨_, _, rfl⟩, rfl⟩, by simp⟩
    · have hsp : a.spot = none := by
        have h1 := (hf2 0 (by omega)).1 0 (by omega)
        have e : a.add (0 * 3 + 0) = a := by simp [Addr.add]
        rw [e] at h1
        simp only [List.getElem?_cons_zero] at h1
        exact spot_none h1
      obtain ⟨ab, ao, sp⟩ := a
      simp only at hsp
      subst hsp
      have hlb : (len : Int) ≤ 5864062014634 := by
        have := hw ((((List.range len).map D).length + ((List.range (m - len)).map fun j => D (len + j)).length) * Tryd.prog.bytesOf 26) (by rw [hx.1]; simp [DataW.weights, Tryd.underlying22])
        rw [bytesOf40] at this
        simp only [List.length_map, List.length_range] at this
        omega
      refine ⟨(List.range len).map f, .inr ⟨ab, ao, cap, by simp, fun i s hs => ?_⟩, by simpa using hlb⟩
      have hi : i < len := by
        have := (List.getElem?_eq_some_iff.1 hs).1
        simpa using this
      have hs' : f i = s := by simpa [hi] using hs
      subst hs'
      obtain ⟨hc, hfit⟩ := hf2 i hi
      have c := fun j hj => hc j hj
      simp only [Addr.add_lit] at c
      refine ⟨by simpa using c 0 (by omega), ?_, ?_, hfit⟩
      · have := c 1 (by omega); rw [← Nat.add_assoc] at this; simpa using this
      · have := c 2 (by omega); rw [← Nat.add_assoc] at this; simpa using this
end
end Go.Proofs.YtffcnonhhfhlhaaDoor.Rg
