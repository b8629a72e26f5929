import Derived.Test.YtgaehpdlljlliaaCdJ
namespace Go.Proofs.Ytgaehpdlljlliaa.Cd
open Go.RowKit
set_option linter.unusedVariables false

/-- a step of a script, a thing -/
structure Stp where
  kind : Int
  N : Int
  I : Int
  F : Bool
  bv : Value
  bs : List Int

def Stp.agg (s : Stp) : Value := .agg #[.int .i64 s.kind, .int .u64 s.N, .int .i64 s.I, .bool s.F, s.bv]

/-- its numbers are as they must be -/
structure Fit (W : World) (s : Stp) : Prop where
  rd : Rd W s.bv s.bs
  byt : Byt s.bs
  n0 : 0 ≤ s.N
  n1 : s.N < 18446744073709551616
  i0 : -9223372036854775808 ≤ s.I
  i1 : s.I ≤ 9223372036854775807
  len : s.bs.length ≤ 140737488351232

/-- the step's five cells -/
structure StpAt (W : World) (b o : Nat) (s : Stp) : Prop where
  c0 : W.cell? ⟨b, o, none⟩ = some (.int .i64 s.kind)
  c1 : W.cell? ⟨b, o + 1, none⟩ = some (.int .u64 s.N)
  c2 : W.cell? ⟨b, o + 2, none⟩ = some (.int .i64 s.I)
  c3 : W.cell? ⟨b, o + 3, none⟩ = some (.bool s.F)
  c4 : W.cell? ⟨b, o + 4, none⟩ = some s.bv
  fit : Fit W s

/-- a script that came in -/
def Scr (W : World) (v : Value) (S : List Stp) : Prop :=
  ((∃ ad cap, v = .slice ad 0 cap) ∧ S = []) ∨ ∃ b off cap, v = .slice (some ⟨b, off, none⟩) S.length cap ∧ ∀ i s, S[i]? = some s → StpAt W b (off + i * 5) s

theorem Rd.below {w w' : World} {u : Value} {ys : List Int} {B : Nat} (h : Rd w u ys) (hB : w.heap.size ≤ B) (k : Below B w w') : Rd w' u ys := by
  rcases h with ⟨rfl, rfl⟩ | ⟨a, cap, rfl, hc⟩
  · exact .inl ⟨rfl, rfl⟩
  · refine .inr ⟨a, cap, rfl, fun j x hj => ?_⟩
    have := hc j x hj
    exact (World.cell?_of_block (k.block _ (Nat.lt_of_lt_of_le (World.block_lt_of_cell? w _ this) hB))).trans this
theorem Fit.below {w w' : World} {s : Stp} {B : Nat} (h : Fit w s) (hB : w.heap.size ≤ B) (k : Below B w w') : Fit w' s :=
  ⟨h.rd.below hB k, h.byt, h.n0, h.n1, h.i0, h.i1, h.len⟩
theorem cell_below {w w' : World} {a : Addr} {u : Value} {B : Nat} (h : w.cell? a = some u) (hB : w.heap.size ≤ B) (k : Below B w w') : w'.cell? a = some u :=
  (World.cell?_of_block (k.block _ (Nat.lt_of_lt_of_le (World.block_lt_of_cell? w _ h) hB))).trans h
theorem StpAt.below {w w' : World} {s : Stp} {b o B : Nat} (h : StpAt w b o s) (hB : w.heap.size ≤ B) (k : Below B w w') : StpAt w' b o s :=
  ⟨cell_below h.c0 hB k, cell_below h.c1 hB k, cell_below h.c2 hB k, cell_below h.c3 hB k, cell_below h.c4 hB k, h.fit.below hB k⟩
theorem Scr.below {w w' : World} {v : Value} {S : List Stp} {B : Nat} (h : Scr w v S) (hB : w.heap.size ≤ B) (k : Below B w w') : Scr w' v S := by
  rcases h with ⟨⟨ad, cap, rfl⟩, rfl⟩ | ⟨b, off, cap, rfl, hc⟩
  · exact .inl ⟨⟨ad, cap, rfl⟩, rfl⟩
  · exact .inr ⟨b, off, cap, rfl, fun i s hs => (hc i s hs).below hB k⟩
theorem Scr.slice {w : World} {v : Value} {S : List Stp} (h : Scr w v S) : ∃ ad cap, v = .slice ad S.length cap := by
  rcases h with ⟨⟨ad, cap, rfl⟩, rfl⟩ | ⟨b, off, cap, rfl, _⟩
  · exact ⟨ad, cap, rfl⟩
  · exact ⟨_, cap, rfl⟩

theorem Kp.toBelow {w w' : World} (h : Kp Nu w w') : Below w.heap.size w w' := ⟨h.os, h.tape, h.output, h.size, fun k hk => h.block k hk (fun h => h)⟩
theorem Kp.andAlloc {w w1 : World} (h : Kp Nu w w1) (o : Obj) : Kp Nu w (w1.alloc o) := h.trans (Kp.alloc w1 o Nu) (fun _ _ h => h)
theorem Kp.andSet {w w1 : World} (h : Kp Nu w w1) (a : Addr) (u : Value) (ha : w.heap.size ≤ a.block) : Kp Nu w (w1.setCell a u) :=
  h.trans (Kp.setCell w1 a u) (fun i hi e => by have : i = a.block := e; omega)

theorem num_any (n : Int) (w : World) : Calls Try.prog 11 #[.int .i64 n] w fun e w' => e = .returned (.int .i64 n) ∧ w' = w := by
  go_enter Try.func11, Try.ntmps11
  go_wp2
  go_ret
  exact ⟨rfl, rfl⟩

def isT (k : Int) : Bool := decide (1 ≤ k) && decide (k ≤ 9)
theorem isThing_any (k : Int) (w : World) : Calls Try.prog 12 #[.int .i64 k] w fun e w' => e = .returned (.bool (isT k)) ∧ w' = w := by
  by_cases h1 : 1 ≤ k
  · by_cases h2 : k ≤ 9
    · rw [show isT k = true by simp [isT, h1, h2]]
      go_enter Try.func12, Try.ntmps12
      go_wp2
      go_ret
      exact ⟨rfl, rfl⟩
    · rw [show isT k = false by simp [isT, h2]]
      go_enter Try.func12, Try.ntmps12
      go_wp2
      go_ret
      exact ⟨rfl, rfl⟩
  · rw [show isT k = false by simp [isT, h1]]
    go_enter Try.func12, Try.ntmps12
    go_wp2
    go_ret
    exact ⟨rfl, rfl⟩

/-- the step as a thing -/
def th (s : Stp) : Stp :=
  { kind := s.kind,
    N := if s.kind = 1 then s.N % 256 else if s.kind = 2 then s.N % 65536 else if s.kind = 3 then s.N % 4294967296 else if s.kind = 4 ∨ s.kind = 5 then s.N else 0,
    I := if s.kind = 6 then s.I else 0,
    F := if s.kind = 7 then s.F else false,
    bv := if s.kind = 8 ∨ s.kind = 9 then s.bv else .slice none 0 0,
    bs := if s.kind = 8 ∨ s.kind = 9 then s.bs else [] }

set_option maxHeartbeats 1000000 in
theorem thing_any (s : Stp) (w : World) (h : Fit w s) : Calls Try.prog 13 #[s.agg] w fun e w' => e = .returned (th s).agg ∧ Kp Nu w w' := by
  obtain ⟨ad, cap, hbv⟩ := h.rd.slice
  have n0 := h.n0
  have n1 := h.n1
  obtain ⟨kind, N, I, F, bv, bs⟩ := s
  simp only [Stp.agg] at *
  generalize bs.length = n at *
  subst hbv
  clear h
  by_cases h1 : kind = 1
  · subst h1
    go_enter Try.func13, Try.ntmps13
    go_wp2
    exact bodyPost_ret (v := .agg #[.int .i64 1, .int .u64 (N % 256), .int .i64 0, .bool false, .slice none 0 0]) (by simp [results, Try.results13, go_sem]) rfl ⟨rfl, (((Kp.refl Nu w).andAlloc _).andAlloc _).andAlloc _⟩
  by_cases h2 : kind = 2
  · subst h2
    have hw : IntKind.u64.wrap (IntKind.u16.wrap N) = N % 65536 := by rw [IntKind.wrap_u16, IntKind.wrap_u64]; omega
    go_enter Try.func13, Try.ntmps13
    go_wp2
    exact bodyPost_ret (v := .agg #[.int .i64 2, .int .u64 (N % 65536), .int .i64 0, .bool false, .slice none 0 0]) (by simp [results, Try.results13, go_sem]) rfl ⟨rfl, (((Kp.refl Nu w).andAlloc _).andAlloc _).andAlloc _⟩
  by_cases h3 : kind = 3
  · subst h3
    go_enter Try.func13, Try.ntmps13
    go_wp2
    exact bodyPost_ret (v := .agg #[.int .i64 3, .int .u64 (N % 4294967296), .int .i64 0, .bool false, .slice none 0 0]) (by simp [results, Try.results13, go_sem]) rfl ⟨rfl, (((Kp.refl Nu w).andAlloc _).andAlloc _).andAlloc _⟩
  by_cases h4 : kind = 4
  · subst h4
    go_enter Try.func13, Try.ntmps13
    go_wp2
    exact bodyPost_ret (v := .agg #[.int .i64 4, .int .u64 (N), .int .i64 0, .bool false, .slice none 0 0]) (by simp [results, Try.results13, go_sem]) rfl ⟨rfl, (((Kp.refl Nu w).andAlloc _).andAlloc _).andAlloc _⟩
  by_cases h5 : kind = 5
  · subst h5
    go_enter Try.func13, Try.ntmps13
    go_wp2
    exact bodyPost_ret (v := .agg #[.int .i64 5, .int .u64 (N), .int .i64 0, .bool false, .slice none 0 0]) (by simp [results, Try.results13, go_sem]) rfl ⟨rfl, (((Kp.refl Nu w).andAlloc _).andAlloc _).andAlloc _⟩
  by_cases h6 : kind = 6
  · subst h6
    go_enter Try.func13, Try.ntmps13
    go_wp2
    exact bodyPost_ret (v := .agg #[.int .i64 6, .int .u64 (0), .int .i64 I, .bool false, .slice none 0 0]) (by simp [results, Try.results13, go_sem]) rfl ⟨rfl, (((Kp.refl Nu w).andAlloc _).andAlloc _).andAlloc _⟩
  by_cases h7 : kind = 7
  · subst h7
    go_enter Try.func13, Try.ntmps13
    go_wp2
    exact bodyPost_ret (v := .agg #[.int .i64 7, .int .u64 (0), .int .i64 0, .bool F, .slice none 0 0]) (by simp [results, Try.results13, go_sem]) rfl ⟨rfl, (((Kp.refl Nu w).andAlloc _).andAlloc _).andAlloc _⟩
  by_cases h8 : kind = 8
  · subst h8
    go_enter Try.func13, Try.ntmps13
    go_wp2
    exact bodyPost_ret (v := .agg #[.int .i64 8, .int .u64 (0), .int .i64 0, .bool false, .slice ad n cap]) (by simp [results, Try.results13, go_sem]) rfl ⟨rfl, (((Kp.refl Nu w).andAlloc _).andAlloc _).andAlloc _⟩
  by_cases h9 : kind = 9
  · subst h9
    go_enter Try.func13, Try.ntmps13
    go_wp2
    exact bodyPost_ret (v := .agg #[.int .i64 9, .int .u64 (0), .int .i64 0, .bool false, .slice ad n cap]) (by simp [results, Try.results13, go_sem]) rfl ⟨rfl, (((Kp.refl Nu w).andAlloc _).andAlloc _).andAlloc _⟩
  have e : th { kind := kind, N := N, I := I, F := F, bv := .slice ad n cap, bs := bs } = { kind := kind, N := 0, I := 0, F := false, bv := .slice none 0 0, bs := [] } := by
    simp only [th, if_neg h1, if_neg h2, if_neg h3, if_neg h6, if_neg h7, if_neg (not_or.2 ⟨h4, h5⟩), if_neg (not_or.2 ⟨h8, h9⟩)]
  rw [e]
  clear e
  go_enter Try.func13, Try.ntmps13
  go_wp2
  exact bodyPost_ret (v := .agg #[.int .i64 kind, .int .u64 0, .int .i64 0, .bool false, .slice none 0 0]) (by simp [results, Try.results13, go_sem]) rfl ⟨rfl, (((Kp.refl Nu w).andAlloc _).andAlloc _).andAlloc _⟩
end Go.Proofs.Ytgaehpdlljlliaa.Cd
